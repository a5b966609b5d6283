/- FunctorKeeps, its plain part: which functors keep their numbers. -/
import Derived.Test.YtoppfhbpmmepaaaDoorFuncApart
namespace Go.Proofs.YtoppfhbpmmepaaaDoor.functors
open Go.RowKit Go.Proofs.YtoppfhbpmmepaaaDoor.own Go.Maps
variable {la made made' lim : Int} {al al' : List atoms.ASlot} {sl sl' : List FSlot}
/-- The functor sits there; where it must be, it is marked. -/
def SitsM (al : List atoms.ASlot) (sl : List FSlot) (n : ByteArray) (k id : Int) (mk : Bool) : Prop := ∃ (j : Nat) (x : FSlot), id = (j : Int) ∧ sl[j]? = some x ∧ x.used = true ∧ (x.name.n : Int) = k ∧ atoms.idOf al n x.name.a ∧ (mk = true → x.mark = true)
theorem SitsM.sits {n : ByteArray} {k id : Int} {mk : Bool} (h : SitsM al sl n k id mk) : FSits al sl n k id := by
  obtain ⟨j, x, h1, h2, h3, h4, h5, _⟩ := h
  exact ⟨j, x, h1, h2, h3, h4, h5⟩
theorem FSits.plain {n : ByteArray} {k id : Int} (h : FSits al sl n k id) : SitsM al sl n k id false := by
  obtain ⟨j, x, h1, h2, h3, h4, h5⟩ := h
  exact ⟨j, x, h1, h2, h3, h4, h5, fun e => by cases e⟩
theorem SitsM.follow {n : ByteArray} {k id : Int} {mk : Bool} (h : SitsM al sl n k id mk) (ha : atoms.Follows al al') (hs : Follows sl sl') : SitsM al' sl' n k id mk := by
  obtain ⟨j, x, h1, h2, h3, h4, ⟨y, h5, h6, h7⟩, h8⟩ := h
  obtain ⟨x', g1, g2, g3, g4⟩ := hs j x h2 h3
  obtain ⟨y', k1, k2, k3, _⟩ := ha x.name.a y h5 h6
  exact ⟨j, x', h1, g1, g2, by rw [g3]; exact h4, ⟨y', by rw [g3]; exact k1, k2, k3.trans h7⟩, fun e => g4 (h8 e)⟩
theorem markF_get {j : Nat} {x : FSlot} (hx : sl[j]? = some x) (hu : x.used = true) : markF sl (j : Int) = sl.set j ⟨x.name, x.used, true⟩ := by
  have hs : slotF sl (j : Int) = some x := by
    unfold slotF
    rw [if_pos (by omega), Int.toNat_natCast, hx, Option.filter_some, if_pos hu]
  unfold markF markS
  rw [hs, Int.toNat_natCast]
theorem follows_mark (sl : List FSlot) (i : Int) : Follows sl (markF sl i) := by
  intro j x hx hu
  cases hs : slotF sl i with
  | none =>
    refine ⟨x, ?_, hu, rfl, id⟩
    unfold markF
    rw [hs]
    exact hx
  | some y =>
    obtain ⟨q, rfl, hy, hyu⟩ := slotF_some hs
    rw [markF_get hy hyu, get_set _ (List.getElem?_eq_some_iff.1 hy).1]
    split
    · rename_i e
      subst e
      rw [hx] at hy
      cases hy
      exact ⟨_, rfl, hu, rfl, fun _ => rfl⟩
    · exact ⟨x, hx, hu, rfl, id⟩
theorem SitsM.mark {n : ByteArray} {k id : Int} {mk : Bool} (h : SitsM al sl n k id mk) : SitsM al (markF sl id) n k id true := by
  obtain ⟨j, x, rfl, h2, h3, h4, h5, h6⟩ := h
  refine ⟨j, ⟨x.name, x.used, true⟩, rfl, ?_, h3, h4, h5, fun _ => rfl⟩
  rw [markF_get h2 h3, get_set _ (List.getElem?_eq_some_iff.1 h2).1, if_pos rfl]
/-- Behind the functors' sweep, Atoms and the atoms' sweep. -/
theorem SitsM.sweep {n : ByteArray} {k id : Int} (h : SitsM al sl n k id true) : SitsM (atoms.sweepTo (markP al (namesP (sweepF sl))) (markP al (namesP (sweepF sl))).length) (sweepF sl) n k id false := by
  obtain ⟨j, x, rfl, h2, h3, h4, ⟨y, h5, h6, h7⟩, h8⟩ := h
  have hm := h8 rfl
  have hs : (sweepF sl)[j]? = some ⟨x.name, x.used, false⟩ := by
    unfold sweepF
    rw [sweepP_get, h2]
    simp only [Option.map_some, Bool.true_and, h3, if_true]
    unfold swept
    rw [if_pos hm, h3]
  refine ⟨j, _, rfl, hs, h3, h4, ?_, fun e => by cases e⟩
  have hn : namesP (sweepF sl) x.name.a = true := by
    unfold namesP
    rw [List.any_eq_true]
    exact ⟨_, List.mem_of_getElem? hs, by simp [h3]⟩
  have hy : (markP al (namesP (sweepF sl)))[x.name.a]? = some ⟨y.name, y.used, true⟩ := by
    rw [markP_get, h5]
    simp only [Option.map_some, hn, h6, Bool.and_self, if_true]
  have hl := (List.getElem?_eq_some_iff.1 hy).1
  refine ⟨⟨y.name, y.used, false⟩, ?_, h6, h7⟩
  rw [atoms.sweepTo_get hy, if_pos hl]
  unfold atoms.swp
  rw [if_neg (by simp)]
/-- The functors at even places that were put sit there; those ahead of q are marked. -/
def KInv (os : List atoms.OpA) (ids : List Int) (al : List atoms.ASlot) (sl : List FSlot) (q : Nat) : Prop := ∀ (i : Nat) (o : atoms.OpA) (id : Int), i % 2 = 0 → os[i]? = some o → ids[i]? = some id → 0 ≤ id → SitsM al sl o.n o.x id (decide (i < q))
theorem KInv.follow {os : List atoms.OpA} {ids : List Int} {q : Nat} (h : KInv os ids al sl q) (ha : atoms.Follows al al') (hs : Follows sl sl') : KInv os ids al' sl' q := fun i o id h0 h1 h2 h3 => (h i o id h0 h1 h2 h3).follow ha hs
theorem KInv.add {os : List atoms.OpA} {ids : List Int} {o : atoms.OpA} {id : Int} (h : KInv os ids al sl 0) (hn : os[ids.length]? = some o) (hi : 0 ≤ id → FSits al sl o.n o.x id) : KInv os (ids ++ [id]) al sl 0 := by
  intro i m d h0 h1 h2 h3
  rw [List.getElem?_append] at h2
  split at h2
  · exact h i m d h0 h1 h2 h3
  · rcases hq : i - ids.length with _ | q
    · rw [hq] at h2
      simp at h2
      have : i = ids.length := by omega
      subst this
      rw [hn] at h1
      cases h1
      subst h2
      exact (hi h3).plain
    · rw [hq] at h2; simp at h2
theorem KInv.mark {os : List atoms.OpA} {ids : List Int} {q : Nat} (h : KInv os ids al sl q) (hq : q % 2 = 0) {id : Int} (hid : ids[q]? = some id) : KInv os ids al (markF sl id) (q + 2) := by
  intro i o d h0 h1 h2 h3
  have hb := h i o d h0 h1 h2 h3
  by_cases e : i = q
  · subst e
    rw [hid] at h2
    cases h2
    rw [show decide (i < i + 2) = true by simp]
    exact hb.mark
  · have e2 : decide (i < q + 2) = decide (i < q) := by
      rw [decide_eq_decide]
      omega
    rw [e2]
    exact hb.follow (atoms.Follows.refl al) (follows_mark sl id)
theorem KInv.sweep {os : List atoms.OpA} {ids : List Int} {q : Nat} (h : KInv os ids al sl q) (hq : os.length ≤ q) : KInv os ids (atoms.sweepTo (markP al (namesP (sweepF sl))) (markP al (namesP (sweepF sl))).length) (sweepF sl) 0 := by
  intro i o d h0 h1 h2 h3
  have hb := h i o d h0 h1 h2 h3
  have hl := (List.getElem?_eq_some_iff.1 h1).1
  rw [show decide (i < q) = true by simp; omega] at hb
  exact hb.sweep
theorem KInv.start {os : List atoms.OpA} {ids : List Int} (h : KInv os ids al sl 0) : KInv os ids al sl 0 := h
end Go.Proofs.YtoppfhbpmmepaaaDoor.functors
