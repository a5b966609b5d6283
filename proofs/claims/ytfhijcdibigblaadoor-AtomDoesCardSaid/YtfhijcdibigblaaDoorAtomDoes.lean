/- AtomDoes, walked. -/
import Derived.Test.YtfhijcdibigblaaDoorAtomDo
import Derived.Deep.RegionHeld3
import Derived.Deep.RegionLaw
namespace Go.Proofs.YtfhijcdibigblaaDoor.atoms
open Go.RowKit Go.Proofs.YtfhijcdibigblaaDoor.own Go.Maps

theorem opMade_le (lim made : Int) (sl : List ASlot) (o : OpA) : made ≤ opMade lim made sl o ∧ opMade lim made sl o ≤ made + 1 := by
  unfold opMade
  split
  · exact internF_made lim made sl o.n
  · omega
/-- Both tables behind k calls. -/
def DoesR (b c : Nat) (lim : Int) (k : Nat) (w0 w : World) : Prop := ∃ made sl, PairE b c lim made sl w0 w ∧ 0 ≤ made ∧ made ≤ (k : Int)

set_option maxRecDepth 100000 in
set_option maxHeartbeats 4000000 in
theorem does_no (lim : Int) (ao : Option Addr) (cap : Nat) (os : List OpA) (w : World) (hm : os.length ≤ maxLen) (hL : Listed w) (h : lim < 15 ∨ 16384 < lim) :
    Calls Tryd.prog 3 #[.int .i64 lim, .slice ao os.length cap] w fun e w' => e = .returned (.bool true) ∧ Below w.heap.size w w' := by
  unfold maxLen at hm
  have HL := Lib.hid hL
  have hnot := run_not
  have HH := Lib.hid h
  clear hL h
  go_enter Tryd.func3, Tryd.ntmps3
  go_wp2_with fail
  refine (new_no lim _ HH.out).mono ?_
  rintro e w1 ⟨rfl, rfl⟩
  go_wp2_with fail
  refine (rnew_no lim _ HH.out).mono ?_
  rintro e w2 ⟨rfl, b2⟩
  have B2 := Lib.hid b2
  clear b2
  go_wp2_with fail
  refine (lives_any _ (HL.out.only (Only.of_below B2.out (fun _ => False)) (fun e => e))).mono ?_
  rintro e w3 ⟨rfl, b3⟩
  have B3 := Lib.hid (B2.out.trans (b3.mono B2.out.size))
  clear b3 B2
  go_wp2_with fail
  refine wp_loop_rounds 1 ?_
  rw [rounds_succ]
  by_cases h0 : 0 < os.length
  · have h1 : (0 : Int) < (os.length : Int) := by omega
    go_wp2_with fail
    go_ret
    exact ⟨rfl, B3.out⟩
  · obtain rfl : os = [] := List.eq_nil_of_length_eq_zero (by omega)
    go_wp2_with fail
    go_ret
    exact ⟨rfl, B3.out⟩

theorem rebase {R : Nat → Prop} {B B' b : Nat} {lim made : Int} {sl : List ASlot} {w : World} (h : RTbl R B b lim made sl w) (hB : B' ≤ B) : RTbl R B' b lim made sl w := by
  obtain ⟨ao, cap, h⟩ := h
  refine ⟨ao, cap, h.blk, ⟨h.row.1, ?_⟩, h.own, fun k hk => ⟨Nat.le_trans hB (h.lt k hk).1, (h.lt k hk).2⟩, h.other, h.few⟩
  rcases h.row.2 with h1 | ⟨g, cap', cur, h1, h2, h3⟩
  · exact .inl h1
  · exact .inr ⟨g, cap', cur, h1, Nat.le_trans hB h2, h3⟩
theorem pair_new {c : Nat} {lim : Int} {w w1 w2 w3 : World} (hL : Listed w) (h0 : 15 ≤ lim) (h1 : lim ≤ 16384) (t1 : Tab (Grew (fun _ => False) w w1) w.heap.size w.heap.size lim 0 (firstS 15) w1 ∧ Only (fun _ => False) w w1)
    (t2 : RTbl (Grew (fun _ => False) w1 w2) w1.heap.size c lim 0 (firstS 15) w2) (b2 : Below w1.heap.size w1 w2) (b3 : Below w2.heap.size w2 w3) : Pair (Grew (fun _ => False) w w1) (Grew (fun _ => False) w1 w2) w.heap.size c lim 0 (firstS 15) w w3 := by
  have hs := t1.2.size
  have st := St.new hL t1 h0 h1
  have o2 := Only.of_below b2 (fun _ => False)
  have st2 := st.still o2 (fun _ _ e => e) (fun e => e) (b2.mono hs)
  have hp : Pair (Grew (fun _ => False) w w1) (Grew (fun _ => False) w1 w2) w.heap.size c lim 0 (firstS 15) w w2 := by
    refine ⟨st2, rebase t2 hs, ?_, ?_⟩
    · rintro k (hk | hk) (hr | hr)
      · exact hk
      · exact hk
      · exact hr
      · omega
    · have := hL.lt
      rintro (hr | hr)
      · exact hr
      · omega
  exact hp.still (Only.of_below b3 (fun _ => False))

/-- Later than w4, the document's table and what came in as they were; the program's table alike. -/
structure PL (R : Nat → Prop) (b c : Nat) (lim made : Int) (sl : List ASlot) (w0 w4 w : World) : Prop where
  pair : ∃ S, Pair S R b c lim made sl w0 w
  cell : ∀ p : Addr, (R p.block ∨ p.block < w0.heap.size) → w.cell? p = w4.cell? p
section
variable {S R : Nat → Prop} {b c : Nat} {lim made : Int} {sl : List ASlot} {w0 w4 w w' : World}
theorem PL.start (h : Pair S R b c lim made sl w0 w4) : PL R b c lim made sl w0 w4 w4 := ⟨⟨S, h⟩, fun _ _ => rfl⟩
theorem PL.still (h : PL R b c lim made sl w0 w4 w) (ho : Only (fun _ => False) w w') : PL R b c lim made sl w0 w4 w' := by
  obtain ⟨⟨S, hp⟩, hc⟩ := h
  refine ⟨⟨S, hp.still ho⟩, fun p hp' => ?_⟩
  have hl : p.block < w.heap.size := by
    rcases hp' with e | e
    · exact (hp.rt.bound.2.2.2 _ e).2
    · exact Nat.lt_of_lt_of_le e hp.st.below.size
  rw [ho.cell hl (fun e => e)]
  exact hc p hp'
theorem PL.step (hp : Pair S R b c lim made sl w0 w) (hc : ∀ p : Addr, (R p.block ∨ p.block < w0.heap.size) → w.cell? p = w4.cell? p) (t : St (Grew S w w') b lim made sl w0 w') (o : Only S w w') : PL R b c lim made sl w0 w4 w' := by
  refine ⟨⟨_, hp.first t o⟩, fun p hp' => ?_⟩
  have hl : p.block < w.heap.size ∧ ¬ S p.block := by
    rcases hp' with e | e
    · exact ⟨(hp.rt.bound.2.2.2 _ e).2, fun hs => hp.dis _ hs e⟩
    · refine ⟨Nat.lt_of_lt_of_le e hp.st.below.size, fun hs => ?_⟩
      have := (hp.st.tab.bound.2.2.2 _ hs).1
      omega
  rw [o.cell hl.1 hl.2]
  exact hc p hp'
theorem pl_len (h : PL R b c lim made sl w0 w4 w) : Calls Tryd.prog 12 #[.pointer (some ⟨b, 0, none⟩)] w fun e w' => e = .returned (.int .i64 (used sl)) ∧ PL R b c lim made sl w0 w4 w' := by
  obtain ⟨⟨S, hp⟩, hc⟩ := h
  refine (st_len hp.st).mono ?_
  rintro e w' ⟨rfl, t, o⟩
  exact ⟨rfl, PL.step hp hc t o⟩
theorem pl_slots (h : PL R b c lim made sl w0 w4 w) : Calls Tryd.prog 14 #[.pointer (some ⟨b, 0, none⟩)] w fun e w' => e = .returned (.int .i64 sl.length) ∧ PL R b c lim made sl w0 w4 w' := by
  obtain ⟨⟨S, hp⟩, hc⟩ := h
  refine (st_slots hp.st).mono ?_
  rintro e w' ⟨rfl, t, o⟩
  exact ⟨rfl, PL.step hp hc t o⟩
theorem pl_made (h : PL R b c lim made sl w0 w4 w) : Calls Tryd.prog 15 #[.pointer (some ⟨b, 0, none⟩)] w fun e w' => e = .returned (.int .i64 made) ∧ PL R b c lim made sl w0 w4 w' := by
  obtain ⟨⟨S, hp⟩, hc⟩ := h
  refine (st_made hp.st).mono ?_
  rintro e w' ⟨rfl, t, o⟩
  exact ⟨rfl, PL.step hp hc t o⟩
theorem pl_marked (x : Int) (v : Bool) (hv : markedS sl x = v) (h : PL R b c lim made sl w0 w4 w) : Calls Tryd.prog 16 #[.pointer (some ⟨b, 0, none⟩), .int .i64 x] w fun e w' => e = .returned (.bool v) ∧ PL R b c lim made sl w0 w4 w' := by
  obtain ⟨⟨S, hp⟩, hc⟩ := h
  subst hv
  refine (st_marked x hp.st).mono ?_
  rintro e w' ⟨rfl, t, o⟩
  exact ⟨rfl, PL.step hp hc t o⟩
theorem pl_rlen (h : PL R b c lim made sl w0 w4 w) : Calls Tryd.prog 13 #[.pointer (some ⟨c, 0, none⟩)] w fun e w' => e = .returned (.int .i64 (used sl)) ∧ PL R b c lim made sl w0 w4 w' := by
  have h' := h
  obtain ⟨⟨S, hp⟩, hc⟩ := h
  obtain ⟨ro, rc, hcore⟩ := hp.rt
  refine (rlen_any hcore).mono ?_
  rintro e w' ⟨rfl, rfl⟩
  exact ⟨rfl, h'⟩
theorem pl_ris (x : Int) (v : Bool) (hv : hasS sl x = v) (h : PL R b c lim made sl w0 w4 w) : Calls Tryd.prog 17 #[.pointer (some ⟨c, 0, none⟩), .int .i64 x] w fun e w' => e = .returned (.bool v) ∧ PL R b c lim made sl w0 w4 w' := by
  have h' := h
  obtain ⟨⟨S, hp⟩, hc⟩ := h
  obtain ⟨ro, rc, hcore⟩ := hp.rt
  subst hv
  refine (ris_any x hcore).mono ?_
  rintro e w' ⟨rfl, rfl⟩
  exact ⟨rfl, h'⟩
end

end Go.Proofs.YtfhijcdibigblaaDoor.atoms
