/- Clauses: small functions. -/
import Derived.Test.YtoogmlgaeipenaaArith3
namespace Go.Proofs.Ytoogmlgaeipenaa.terms
set_option maxRecDepth 100000
open Go.RowKit Go.Proofs.Ytoogmlgaeipenaa.own Go.Maps
/-- Is a term the atom of a name, or a compound of it and so many arguments? -/
def goesB (t : T) (s : ByteArray) (n : Int) : Bool := ((t.k == 3) || (t.k == 4)) && ((t.s.toList == s.toList) && ((t.l.length : Int) == n))
set_option maxHeartbeats 4000000 in
theorem goesBy_any (t : T) (s : ByteArray) (n : Int) (ao : Option Addr) (cap : Nat) (w : World) : Calls Try.prog 88 #[tv t ao cap, .string s, .int .i64 n] w fun e w' => e = .returned (.bool (goesB t s n)) ∧ Only (fun _ => False) w w' := by
  have HB0 : Hid (Quad w.heap.size (.int .i64 t.k) (.int .i64 t.n) (.string t.s) (.slice ao t.l.length cap) (w.alloc (.cells #[.int .i64 t.k, .int .i64 t.n, .string t.s, .slice ao t.l.length cap] 24))) := Lib.hid (heap_alloc_new w _)
  have HO0 : Hid (Only (fun _ => False) w (w.alloc (.cells #[.int .i64 t.k, .int .i64 t.n, .string t.s, .slice ao t.l.length cap] 24))) := Lib.hid (Only.alloc _ _ _)
  obtain ⟨c0, c1, c2, c3⟩ := HB0.out.cells
  have HG : Hid (goesB t s n = (((t.k == 3) || (t.k == 4)) && ((t.s.toList == s.toList) && ((t.l.length : Int) == n)))) := Lib.hid rfl
  generalize goesB t s n = G at *
  show Calls Try.prog 88 #[.agg #[.int .i64 t.k, .int .i64 t.n, .string t.s, .slice ao t.l.length cap], .string s, .int .i64 n] w _
  by_cases h3 : t.k = 3
  · have e3 : (t.k == 3) = true := by simpa using h3
    clear h3
    by_cases hs : t.s.toList = s.toList
    · have es : (t.s.toList == s.toList) = true := by simpa using hs
      clear hs
      by_cases hn : (t.l.length : Int) = n
      · have en : ((t.l.length : Int) == n) = true := by simpa using hn
        clear hn
        obtain rfl : G = true := by rw [HG.out, e3, es, en]; simp
        clear HG
        go_enter Try.func88, Try.ntmps88
        go_wp2_with fail
        go_ret
        exact ⟨rfl, HO0.out⟩
      · have en : ((t.l.length : Int) == n) = false := by simpa using hn
        clear hn
        obtain rfl : G = false := by rw [HG.out, e3, es, en]; simp
        clear HG
        go_enter Try.func88, Try.ntmps88
        go_wp2_with fail
        go_ret
        exact ⟨rfl, HO0.out⟩
    · have es : (t.s.toList == s.toList) = false := by simpa using hs
      clear hs
      obtain rfl : G = false := by rw [HG.out, e3, es]; simp
      clear HG
      go_enter Try.func88, Try.ntmps88
      go_wp2_with fail
      go_ret
      exact ⟨rfl, HO0.out⟩
  · have e3 : (t.k == 3) = false := by simpa using h3
    clear h3
    by_cases h4 : t.k = 4
    · have e4 : (t.k == 4) = true := by simpa using h4
      clear h4
      by_cases hs : t.s.toList = s.toList
      · have es : (t.s.toList == s.toList) = true := by simpa using hs
        clear hs
        by_cases hn : (t.l.length : Int) = n
        · have en : ((t.l.length : Int) == n) = true := by simpa using hn
          clear hn
          obtain rfl : G = true := by rw [HG.out, e3, e4, es, en]; simp
          clear HG
          go_enter Try.func88, Try.ntmps88
          go_wp2_with fail
          go_ret
          exact ⟨rfl, HO0.out⟩
        · have en : ((t.l.length : Int) == n) = false := by simpa using hn
          clear hn
          obtain rfl : G = false := by rw [HG.out, e3, e4, es, en]; simp
          clear HG
          go_enter Try.func88, Try.ntmps88
          go_wp2_with fail
          go_ret
          exact ⟨rfl, HO0.out⟩
      · have es : (t.s.toList == s.toList) = false := by simpa using hs
        clear hs
        obtain rfl : G = false := by rw [HG.out, e3, e4, es]; simp
        clear HG
        go_enter Try.func88, Try.ntmps88
        go_wp2_with fail
        go_ret
        exact ⟨rfl, HO0.out⟩
    · have e4 : (t.k == 4) = false := by simpa using h4
      clear h4
      obtain rfl : G = false := by rw [HG.out, e3, e4]; simp
      clear HG
      go_enter Try.func88, Try.ntmps88
      go_wp2_with fail
      go_ret
      exact ⟨rfl, HO0.out⟩
end Go.Proofs.Ytoogmlgaeipenaa.terms
