/- Operators: what OperSets says, in plain words. -/
import Derived.Test.YtodgjkdhkohckaaDoorOper26
namespace Go.Proofs.YtodgjkdhkohckaaDoor.opers
open Go.RowKit Go.Proofs.YtodgjkdhkohckaaDoor.own Go.Maps Go.Sort Go.Shelf Go.Proofs.YtodgjkdhkohckaaDoor.toks
theorem keyN_inj {n m : ByteArray} (h : keyN n = keyN m) : n = m := by
  unfold keyN at h
  obtain ⟨a⟩ := n
  obtain ⟨b⟩ := m
  have e : a = b := Array.toList_inj.1 (Lit.string.inj h)
  rw [e]
/-- Another operator than that one: of another name, or of the other kind. -/
def otherB (s : ByteArray) (k : Int) (x : Op3) : Bool := !(x.n.toList == s.toList) || (isPreF x.k != isPreF k)
theorem otherB_false {s : ByteArray} {k : Int} {x : Op3} (h : otherB s k x = false) : x.n = s ∧ isPreF x.k = isPreF k := by
  unfold otherB at h
  simp only [Bool.or_eq_false_iff, Bool.not_eq_false', beq_iff_eq, bne_eq_false_iff_eq] at h
  obtain ⟨h1, h2⟩ := h
  rw [ByteArray.toList_eq, ByteArray.toList_eq] at h1
  refine ⟨?_, h2⟩
  obtain ⟨p, q, ⟨a⟩⟩ := x
  obtain ⟨b⟩ := s
  have e : a = b := Array.toList_inj.1 h1
  simp only
  rw [e]
theorem otherB_self (p k : Int) (s : ByteArray) : otherB s k ⟨p, k, s⟩ = false := by unfold otherB; simp
theorem at_other {Di Dp : D1} {p k : Int} {s : ByteArray} {x : Op3} (h : otherB s k x = true) : At (setI Di Dp p k s) (setP Di Dp p k s) x ↔ At Di Dp x := by
  have hk : ∀ D : D1, isPreF x.k = isPreF k → ∀ zd, (newD D p k s).atKey (keyN x.n) zd = D.atKey (keyN x.n) zd := fun D hp zd => by
    have hne : keyN x.n ≠ keyN s := fun e => by
      have e2 := keyN_inj e
      unfold otherB at h
      rw [e2, hp] at h
      simp at h
    unfold newD
    split
    · exact atKey_put_other hne _ _
    · exact atKey_del_other hne _
  unfold At sideD setI setP
  by_cases hE : setE Di Dp p k s = 0
  · simp only [if_pos hE]
    cases hp : isPreF k with
    | true =>
      cases hx : isPreF x.k with
      | true => simp only [if_true, hk Dp (by rw [hx, hp])]
      | false => simp only [if_true, Bool.false_eq_true, if_false]
    | false =>
      cases hx : isPreF x.k with
      | true => simp only [if_true, Bool.false_eq_true, if_false]
      | false => simp only [Bool.false_eq_true, if_false, hk Di (by rw [hx, hp])]
  · simp only [if_neg hE]
theorem at_same {Di Dp : D1} {p k : Int} {s : ByteArray} {x : Op3} (hi : Fine false Di) (hp : Fine true Dp) (hE : setE Di Dp p k s = 0) (h : otherB s k x = false) : At (setI Di Dp p k s) (setP Di Dp p k s) x ↔ (0 < p ∧ x = ⟨p, k, s⟩) := by
  obtain ⟨hn, hk⟩ := otherB_false h
  have hside : sideD x.k (setI Di Dp p k s) (setP Di Dp p k s) = newD (sideD k Di Dp) p k s := by
    unfold sideD setI setP
    rw [hk, if_pos hE, if_pos hE]
    cases hq : isPreF k <;> simp
  have hm : IsMap (sideD k Di Dp) := by
    unfold sideD
    split
    · exact hp.1
    · exact hi.1
  unfold At
  rw [hside, hn]
  unfold newD
  by_cases h5 : 0 < p
  · rw [if_pos h5]
    constructor
    · intro hz
      have e := hz zeroD
      rw [atKey_put_same hm (keyN_key s)] at e
      obtain ⟨e1, e2, e3⟩ := opD_inj e
      refine ⟨h5, ?_⟩
      obtain ⟨p', k', n'⟩ := x
      simp only at e1 e2 e3 hn
      rw [e1, e2, hn]
    · rintro ⟨_, e⟩ zd
      rw [atKey_put_same hm (keyN_key s), e]
  · rw [if_neg h5]
    constructor
    · intro hz
      exfalso
      have e1 := hz zeroD
      have e2 := hz (opD (x.p + 1) x.k s)
      rw [atKey_del_same] at e1 e2
      obtain ⟨e3, _, _⟩ := opD_inj e2
      omega
    · rintro ⟨h6, _⟩
      exact absurd h6 h5
theorem filter_len {l : List Op3} {o : Op3} (hnd : l.Nodup) (ho : o ∈ l) : (l.filter (fun x => !(eqO x o))).length + 1 = l.length := by
  induction l with
  | nil => cases ho
  | cons a t ih =>
    rw [List.nodup_cons] at hnd
    by_cases e : a = o
    · subst e
      have hf : t.filter (fun x => !(eqO x a)) = t := List.filter_eq_self.2 (fun x hx => by
        cases hq : eqO x a with
        | false => rfl
        | true => exact absurd (eqO_iff.1 hq ▸ hx) hnd.1)
      rw [List.filter_cons_of_neg (by rw [eqO_self]; decide), hf, List.length_cons]
    · have hq : eqO a o = false := by
        cases hq : eqO a o with
        | false => rfl
        | true => exact absurd (eqO_iff.1 hq) e
      rw [List.filter_cons_of_pos (by rw [hq]; rfl), List.length_cons, List.length_cons, ih hnd.2 ((List.mem_cons.1 ho).resolve_left (fun h => e h.symm))]
theorem sets_plain {Di Dp : D1} {p k : Int} {s : ByteArray} (hi : Fine false Di) (hp : Fine true Dp) (hE : setE Di Dp p k s = 0) {was now : List Op3} (hw : AllIs Di Dp was) (hn : AllIs (setI Di Dp p k s) (setP Di Dp p k s) now) :
    now.filter (fun x => !(eqO x ⟨p, k, s⟩)) = was.filter (otherB s k) ∧ (0 < p → now.length = (was.filter (otherB s k)).length + 1) ∧ 0 ≤ p := by
  obtain ⟨gi, gp⟩ := fine_set hi hp p k s
  have he : now.filter (fun x => !(eqO x ⟨p, k, s⟩)) = was.filter (otherB s k) := by
    refine strict_ext cfO_swo _ _ ((all_strict gi gp hn).filter _) ((all_strict hi hp hw).filter _) (fun x => ?_)
    rw [List.mem_filter, List.mem_filter, all_mem gi gp hn, all_mem hi hp hw]
    cases ho : otherB s k x with
    | true =>
      rw [at_other ho]
      have hq : eqO x ⟨p, k, s⟩ = false := by
        cases hq : eqO x ⟨p, k, s⟩ with
        | false => rfl
        | true =>
          rw [eqO_iff.1 hq, otherB_self] at ho
          cases ho
      rw [hq]
      simp
    | false =>
      rw [at_same hi hp hE ho]
      constructor
      · rintro ⟨⟨_, e⟩, h2⟩
        rw [e, eqO_self] at h2
        cases h2
      · rintro ⟨_, h2⟩
        cases h2
  refine ⟨he, fun h5 => ?_, ?_⟩
  · rw [← he]
    have ho : (⟨p, k, s⟩ : Op3) ∈ now := (all_mem gi gp hn _).2 ((at_same hi hp hE (otherB_self p k s)).2 ⟨h5, rfl⟩)
    exact (filter_len (all_nodup gi gp hn) ho).symm
  · by_cases h : p < 0
    · unfold setE at hE
      rw [if_pos h] at hE
      cases hE
    · omega
end Go.Proofs.YtodgjkdhkohckaaDoor.opers
