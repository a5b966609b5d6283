/- The rows of free cells under their tree: contracts of at, first, last, set. -/
import Derived.Test.YtaplfibhhdngbaaProg
import Derived.Test.YtaplfibhhdngbaaOwn
import Derived.Test.YtaplfibhhdngbaaPoolTree
import Derived.WalkLawsBesides
import Derived.WalkSpells
import Derived.Outline
import Derived.Lib.Hide
import Derived.Deep.QuietTactic
import Derived.BigQuiet
import Derived.Deep.LoopGhost
import Derived.IntWalk
namespace Go.Proofs.Ytaplfibhhdngbaa.pools
open Go.RowKit Go.Proofs.Ytaplfibhhdngbaa.own Go.Proofs.Ytaplfibhhdngbaa.trees

def enc32 (x : Int) : List Value := [.int .i32 x]
theorem lies32 : Lies enc32 1 := ⟨fun _ => rfl, by intro x u hu; simp [enc32] at hu; subst hu; rfl, by omega⟩
abbrev MostP (B : Nat) (ao : Option Addr) (cap : Nat) (T : List Int) (w : World) : Prop := RowOf enc32 1 21 B ao cap T w
/-- The tree's numbers are lengths. -/
def Small (T : List Int) : Prop := ∀ j, 0 ≤ T.getD j 0 ∧ T.getD j 0 ≤ 1048576
/-- The rows, under their tree of sz = 2^k places, at ⟨b, o⟩. -/
structure Runs (B b o k sz : Nat) (ao : Option Addr) (cap : Nat) (T : List Int) (w : World) : Prop where
  c0 : w.cell? ⟨b, o, none⟩ = some (.int .i64 sz)
  c1 : w.cell? ⟨b, o + 1, none⟩ = some (.slice ao T.length cap)
  row : MostP B ao cap T w
  tree : Tree k T
  size : sz = 2 ^ k
  few : sz ≤ 1048576
  small : Small T

variable {B b o k sz : Nat} {ao : Option Addr} {cap : Nat} {T : List Int} {w : World}
theorem Runs.len (h : Runs B b o k sz ao cap T w) : T.length = 2 * sz := by rw [h.size]; exact h.tree.len
theorem Runs.pos (h : Runs B b o k sz ao cap T w) : 1 ≤ sz := by rw [h.size]; exact pow_pos2 k
theorem Runs.get (h : Runs B b o k sz ao cap T w) (j : Nat) (hj : j < 2 * sz) : ∃ g, ao = some ⟨g, 0, none⟩ ∧ w.cell? ⟨g, j, none⟩ = some (.int .i32 (T.getD j 0)) ∧ w.frozen? ⟨g, j, none⟩ = false := by
  have hl := h.len
  obtain ⟨x, hx⟩ : ∃ x, T[j]? = some x := ⟨_, List.getElem?_eq_getElem (by omega)⟩
  obtain ⟨g, rfl, _, hc⟩ := h.row.at lies32 j x hx
  have h0 := hc 0 (by omega)
  simp only [Nat.mul_one, Nat.add_zero, enc32, List.getElem?_cons_zero] at h0
  refine ⟨g, rfl, ?_, h0.2⟩
  rw [h0.1]
  simp [List.getD_eq_getElem?_getD, hx]
theorem Runs.block (h : Runs B b o k sz ao cap T w) : ∃ g, ao = some ⟨g, 0, none⟩ ∧ ∀ j, j < 2 * sz → w.cell? ⟨g, j, none⟩ = some (.int .i32 (T.getD j 0)) ∧ w.frozen? ⟨g, j, none⟩ = false := by
  obtain ⟨g, hg, _⟩ := h.get 0 (by have := h.pos; omega)
  refine ⟨g, hg, fun j hj => ?_⟩
  obtain ⟨g', hg', h2⟩ := h.get j hj
  rw [hg] at hg'
  cases hg'
  exact h2
theorem Runs.drewN (h : Runs B b o k sz ao cap T w) (n : Nat) : Runs B b o k sz ao cap T (w.drewN n) :=
  ⟨h.c0, h.c1, h.row.only (Only.drewN (fun _ => False) w n) (fun _ _ e => e), h.tree, h.size, h.few, h.small⟩

theorem at_q (p : Nat) (hp : p < sz) (h : Runs B b o k sz ao cap T w) :
    Calls Try.prog 44 #[.pointer (some ⟨b, o, none⟩), .int .i64 p] w fun e w' => e = .returned (.int .i64 (T.getD (sz + p) 0)) ∧ ∃ n, w' = w.drewN n := by
  have hl := h.len
  have hfew := h.few
  have hcap := h.row.cap_ge
  obtain ⟨g, rfl, hb⟩ := h.block
  have c0 := h.c0
  have c1 := h.c1
  have hcell := (hb (sz + p) (by omega)).1
  have hs := h.small (sz + p)
  generalize T.getD (sz + p) 0 = x at *
  have hi0 : (0 : Int) ≤ (sz : Int) + (p : Int) := by omega
  have hi1 : (sz : Int) + (p : Int) < (T.length : Int) := by omega
  have HL := Lib.hid hl
  clear h hb hl
  have hsum : IntKind.i64.wrap ((sz : Int) + (p : Int)) = (sz : Int) + (p : Int) := IntWalk.i64_in _ (by omega)
  have hnat : ((sz : Int) + (p : Int)).toNat = sz + p := by omega
  go_enter Try.func44, Try.ntmps44
  go_wp2_with fail
  go_quiet (fail)
  clear hsum hnat
  go_wp2_with fail
  go_ret
  exact ⟨rfl, _, rfl⟩

theorem at_any (p : Nat) (hp : p < sz) (h : Runs B b o k sz ao cap T w) :
    Calls Try.prog 44 #[.pointer (some ⟨b, o, none⟩), .int .i64 p] w fun e w' => e = .returned (.int .i64 (T.getD (sz + p) 0)) ∧ Only (fun _ => False) w w' :=
  (at_q p hp h).mono fun _ _ hh => ⟨hh.1, by obtain ⟨n, rfl⟩ := hh.2; exact Only.drewN _ _ _⟩

/-- What first answers: the first place from a on with a row of n cells, or none. -/
inductive FirstR (T : List Int) (sz a : Nat) (n : Int) : Int → Prop
  | found (p : Nat) (h1 : a ≤ p) (h2 : p < sz) (h3 : n ≤ T.getD (sz + p) 0) (h4 : Less T (sz + a) (sz + p) n) : FirstR T sz a n (p : Int)
  | none (h : Less T (sz + a) (2 * sz) n) : FirstR T sz a n (-1)
theorem root_all (t : Tree k T) (n : Int) (h : T.getD 1 0 < n) (a : Nat) : Less T (2 ^ k + a) (2 * 2 ^ k) n := by
  have nd : TNode k 0 k 1 := ⟨by omega, by simp, by simp⟩
  have := Less.more (h := k) (a := 2 ^ k) t (i := 1) (by rw [Nat.one_mul]; exact Less.empty) nd h
  intro j h1 h2
  exact this j (by omega) (by simpa using h2)
/-- A node at the loop's head. -/
def AtNode (k sz a : Nat) (T : List Int) (n : Int) (i g : Nat) : Prop := ∃ d h, TNode k d h i ∧ Less T (sz + a) (i * 2 ^ h) n ∧ g + i * 2 ^ h = 2 * sz ∧ sz + a ≤ i * 2 ^ h
/-- A node on the way down. -/
def AtDown (k sz a : Nat) (T : List Int) (n : Int) (q : Nat) : Prop := ∃ d h, TNode k d h q ∧ Less T (sz + a) (q * 2 ^ h) n ∧ n ≤ T.getD q 0 ∧ sz + a ≤ q * 2 ^ h

set_option maxRecDepth 100000 in
set_option maxHeartbeats 4000000 in
theorem first_far (a : Nat) (n : Int) (h : Runs B b o k sz ao cap T w) (ha : sz ≤ a) :
    Calls Try.prog 38 #[.pointer (some ⟨b, o, none⟩), .int .i64 a, .int .i64 n] w fun e w' => (∃ r, e = .returned (.int .i64 r) ∧ FirstR T sz a n r) ∧ w = w' := by
  have c0 := h.c0
  have hF : Hid (FirstR T sz a n (-1)) := Lib.hid (.none (fun j h1 h2 => by omega))
  clear h
  go_enter Try.func38, Try.ntmps38
  go_wp2_with fail
  go_ret
  exact ⟨⟨_, rfl, hF.out⟩, rfl⟩
set_option maxRecDepth 100000 in
set_option maxHeartbeats 4000000 in
theorem first_near (a : Nat) (n : Int) (h : Runs B b o k sz ao cap T w) (ha : a < sz) (hn0 : 1 ≤ n) (hn1 : n ≤ 9223372036854775807) :
    Calls Try.prog 38 #[.pointer (some ⟨b, o, none⟩), .int .i64 a, .int .i64 n] w fun e w' => (∃ r, e = .returned (.int .i64 r) ∧ FirstR T sz a n r) ∧ w = w' := by
  have c0 := h.c0
  have c1 := h.c1
  have hl := h.len
  have hfew := h.few
  have hcap := h.row.cap_ge
  have hpos := h.pos
  obtain ⟨g, rfl, hb⟩ := h.block
  have HT := Lib.hid h.tree
  have HSZ := Lib.hid h.size
  have HSM := Lib.hid h.small
  have HB := Lib.hid hb
  have r1 := (hb 1 (by omega)).1
  have s1 := h.small 1
  have hlT : (T.length : Int) = 2 * (sz : Int) := by omega
  have hTl : 1 < T.length := by omega
  have HL := Lib.hid hl
  have HRT := Lib.hid (fun (hh : T.getD 1 0 < n) => (show FirstR T sz a n (-1) from .none (by have := root_all h.tree n hh a; rw [← h.size] at this; exact this)))
  have HN0 : Hid (AtNode k sz a T n (sz + a) (2 * sz - (sz + a))) := Lib.hid ⟨k, 0, by rw [h.size]; exact TNode.leaf (by rw [← h.size]; exact ha), by simp only [Nat.pow_zero, Nat.mul_one]; exact Less.empty, by simp only [Nat.pow_zero, Nat.mul_one]; omega, by simp⟩
  clear h hb hl
  by_cases hroot : T.getD 1 0 < n
  · have HF := Lib.hid (HRT.out hroot)
    generalize T.getD 1 0 = x1 at *
    clear HRT hlT
    go_enter Try.func38, Try.ntmps38
    go_wp2_with fail
    go_ret
    exact ⟨⟨_, rfl, HF.out⟩, rfl⟩
  · clear HRT
    generalize T.getD 1 0 = x1 at *
    clear hlT
    go_enter Try.func38, Try.ntmps38
    go_wp2_with fail
    go_loopg [7] (2 * sz - (sz + a)) (fun gk i wr => ∃ m : Nat, i = .int .i64 m ∧ wr = w ∧ m < 2 * sz ∧ Hid (AtNode k sz a T n m gk))
    case atStart => exact ⟨sz + a, by go_num, rfl, by omega, HN0⟩
    case round =>
      obtain ⟨m, rfl, rfl, hm, HA⟩ := hrel
      obtain ⟨d, h, nd, hless, hg, hpl⟩ := HA.out
      have HPL := Lib.hid hpl
      have ND := Lib.hid nd
      have HLE := Lib.hid hless
      have HG := Lib.hid hg
      have rm := (HB.out m hm).1
      have sm := HSM.out m
      have hmT : m < T.length := by have := HL.out; omega
      have hcov := nd.cover
      have hm1 : 1 ≤ m := hcov.2.2
      clear nd hless hg hcov HN0 hpl
      by_cases hlt : T.getD m 0 < n
      · have HM2 := Lib.hid (HLE.out.more HT.out ND.out hlt)
        have HC0 : Hid (Climb k ((m + 1) * 2 ^ h) m) := Lib.hid (Climb.start ND.out)
        generalize T.getD m 0 = xm at *
        have HE : Hid ((m + 1) * 2 ^ h ≤ 2 * sz ∧ m * 2 ^ h < (m + 1) * 2 ^ h) := Lib.hid (by
          have h1 := ND.out.cover.2.1
          rw [← HSZ.out] at h1
          refine ⟨h1, ?_⟩
          rw [Nat.add_mul]
          have := pow_pos2 h
          omega)
        generalize hE : (m + 1) * 2 ^ h = E at *
        clear hE
        go_wp2_with fail
        go_loop [7] (fun v => ∃ m' : Nat, v = .int .i64 m' ∧ m' ≤ m ∧ Hid (Climb k E m')) (fun v => (intOf v).toNat)
        case atStart => exact ⟨m, rfl, by omega, HC0⟩
        case round =>
          obtain ⟨m', rfl, hm', HC⟩ := hrel
          by_cases hodd : m' % 2 = 1
          · have HC2 : Hid (Climb k E (m' / 2)) := Lib.hid (by
              have e : m' = 2 * (m' / 2) + 1 := by omega
              have := HC.out
              rw [e] at this
              exact this.up)
            have hmod : ((m' : Int) % 2 == 1) = true := by simp; omega
            have HODD := Lib.hid hodd
            clear hodd
            go_wp2_with fail
            go_round
            case rel => exact ⟨m' / 2, by go_num, by omega, HC2⟩
            case measure => have := HODD.out; simp [intOf]; omega
          · have hmod : ((m' : Int) % 2 == 1) = false := by simp; omega
            have HEV : Hid (m' % 2 = 0) := Lib.hid (by omega)
            clear hodd
            by_cases hz : m' = 0
            · subst hz
              have HF : Hid (FirstR T sz a n (-1)) := Lib.hid (.none (by
                have h2 := HM2.out
                rcases HC.out.fit with ⟨_, e⟩ | ⟨d', h', n', _⟩
                · rw [e, ← HSZ.out] at h2
                  exact h2
                · have := n'.cover.2.2; omega))
              go_wp2_with fail
              go_ret
              exact ⟨⟨_, rfl, HF.out⟩, rfl⟩
            · have hzb : ((m' : Int) == 0) = false := by simp; omega
              have HN2 : Hid (AtNode k sz a T n (m' + 1) (2 * sz - E) ∧ m' + 1 < 2 * sz) := Lib.hid (by
                have e : m' = 2 * (m' / 2) := by have := HEV.out; omega
                have hc := HC.out
                rw [e] at hc
                obtain ⟨d', h', n', hE'⟩ := hc.next (by omega)
                rw [← e] at n' hE'
                have hEl := HE.out.1
                refine ⟨⟨d', h', n', by rw [hE']; exact HM2.out, by rw [hE']; omega, by rw [hE']; have h5 := HE.out.2; have h6 := HPL.out; omega⟩, ?_⟩
                have h1 := n'.hi
                have h2 := n'.sum
                have h3 : 2 ^ d' ≤ 2 ^ k := Nat.pow_le_pow_right (by omega) (by omega)
                rw [← HSZ.out] at h3
                omega)
              go_wp2_with fail
              go_roundg (2 * sz - E)
              case rel => exact ⟨m' + 1, by go_num, rfl, HN2.out.2, Lib.hid HN2.out.1⟩
              case measure => have h1 := HG.out; have h2 := HE.out; omega
      · have hge : n ≤ T.getD m 0 := by omega
        have HD0 : Hid (AtDown k sz a T n m) := Lib.hid ⟨d, h, ND.out, HLE.out, hge, HPL.out⟩
        generalize T.getD m 0 = xm at *
        go_wp2_with fail
        go_loop [7] (fun v => ∃ q : Nat, v = .int .i64 q ∧ q < 2 * sz ∧ 1 ≤ q ∧ Hid (AtDown k sz a T n q)) (fun v => 2 * sz - (intOf v).toNat)
        case atStart => exact ⟨m, rfl, hm, hm1, HD0⟩
        case round =>
          obtain ⟨q, rfl, hq, hq1, HQ⟩ := hrel
          obtain ⟨d', h', nd', hless', hge', hpl'⟩ := HQ.out
          have HPL' := Lib.hid hpl'
          have ND' := Lib.hid nd'
          have HLE' := Lib.hid hless'
          have HGE' := Lib.hid hge'
          clear nd' hless' hge' hpl'
          by_cases hqs : q < sz
          · have hh : h' ≠ 0 := by have := ND'.out.height; rw [← HSZ.out] at this; exact this.1 hqs
            obtain ⟨hp, rfl⟩ : ∃ hp, h' = hp + 1 := ⟨h' - 1, by omega⟩
            have rm2 : wr.cell? ⟨g, q * 2, none⟩ = some (.int .i32 (T.getD (2 * q) 0)) := by rw [show q * 2 = 2 * q by omega]; exact (HB.out (2 * q) (by omega)).1
            have sm2 := HSM.out (2 * q)
            have hmT2 : q * 2 < T.length := by have := HL.out; omega
            by_cases hl2 : T.getD (2 * q) 0 < n
            · have HD2 : Hid (AtDown k sz a T n (q * 2 + 1)) := Lib.hid (by
                have := down_right (a := sz + a) HT.out HLE'.out ND'.out HGE'.out hl2
                rw [Nat.mul_comm q 2]
                exact ⟨_, hp, ND'.out.right, this.1, this.2, by rw [ends_mid]; exact Nat.le_trans HPL'.out (Nat.le_add_right _ _)⟩)
              generalize T.getD (2 * q) 0 = x2 at *
              go_wp2_with fail
              go_round
              case rel => exact ⟨q * 2 + 1, by go_num, by omega, by omega, HD2⟩
              case measure => simp [intOf]; omega
            · have HD2 : Hid (AtDown k sz a T n (q * 2)) := Lib.hid (by
                rw [Nat.mul_comm q 2]
                exact ⟨_, hp, ND'.out.left, by rw [ends_left]; exact HLE'.out, Int.not_lt.1 hl2, by rw [ends_left]; exact HPL'.out⟩)
              generalize T.getD (2 * q) 0 = x2 at *
              go_wp2_with fail
              go_round
              case rel => exact ⟨q * 2, by go_num, by omega, by omega, HD2⟩
              case measure => simp [intOf]; omega
          · have HF : Hid (FirstR T sz a n ((q : Int) - (sz : Int))) := Lib.hid (by
              have hh : h' = 0 := by
                have := ND'.out.height
                rw [← HSZ.out] at this
                by_cases e : h' = 0
                · exact e
                · exact absurd (this.2 e) hqs
              subst hh
              have hl := HLE'.out
              simp only [Nat.pow_zero, Nat.mul_one] at hl
              have e : (q : Int) - (sz : Int) = ((q - sz : Nat) : Int) := by omega
              rw [e]
              have hqa := HPL'.out
              simp only [Nat.pow_zero, Nat.mul_one] at hqa
              refine .found (q - sz) (by omega) (by omega) ?_ ?_
              · rw [show sz + (q - sz) = q by omega]; exact HGE'.out
              · rw [show sz + (q - sz) = q by omega]; exact hl)
            go_wp2_with fail
            go_ret
            exact ⟨⟨_, rfl, HF.out⟩, rfl⟩
end Go.Proofs.Ytaplfibhhdngbaa.pools
