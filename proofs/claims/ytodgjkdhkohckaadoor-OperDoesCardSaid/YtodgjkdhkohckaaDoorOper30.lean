/- Operators: the reference's list beside a table. Plain. -/
import Derived.Test.YtodgjkdhkohckaaDoorOper27
namespace Go.Proofs.YtodgjkdhkohckaaDoor.opers
open Go.RowKit Go.Proofs.YtodgjkdhkohckaaDoor.own Go.Maps Go.Sort Go.Shelf Go.Proofs.YtodgjkdhkohckaaDoor.toks
/-- The operator is of that name, and prefix or not. -/
def keyB (s : ByteArray) (b : Bool) (x : Op3) : Bool := (x.n.toList == s.toList) && (isPreF x.k == b)
theorem keyB_other (s : ByteArray) (k : Int) (x : Op3) : keyB s (isPreF k) x = !(otherB s k x) := by
  unfold keyB otherB bne
  cases (x.n.toList == s.toList) <;> simp
theorem keyB_yes {s : ByteArray} {k : Int} {x : Op3} (h : keyB s (isPreF k) x = true) : x.n = s ∧ isPreF x.k = isPreF k := by
  rw [keyB_other] at h
  exact otherB_false (by simpa using h)
theorem keyB_mk {s : ByteArray} {b : Bool} {x : Op3} (h1 : x.n = s) (h2 : isPreF x.k = b) : keyB s b x = true := by
  unfold keyB
  rw [h1, h2]
  simp
/-- The list holds just what stands in the table. -/
structure Rel (Di Dp : D1) (l : List Op3) : Prop where
  fi : Fine false Di
  fp : Fine true Dp
  mem : ∀ x, x ∈ l ↔ At Di Dp x
  nodup : l.Nodup
  ty : ∀ x ∈ l, isTypeF x.k = true
variable {Di Dp : D1} {l : List Op3}
theorem side_eq {k k' : Int} (h : isPreF k = isPreF k') : sideD k Di Dp = sideD k' Di Dp := by unfold sideD; rw [h]
theorem Rel.fine (h : Rel Di Dp l) (k : Int) : Fine (isPreF k) (sideD k Di Dp) := by
  unfold sideD
  cases hk : isPreF k with
  | true => rw [if_pos rfl]; exact h.fp
  | false => rw [if_neg (by decide)]; exact h.fi
theorem Rel.one (h : Rel Di Dp l) {x y : Op3} (hx : x ∈ l) (hy : y ∈ l) (hn : x.n = y.n) (hk : isPreF x.k = isPreF y.k) : x = y := by
  have a := (h.mem x).1 hx zeroD
  have b := (h.mem y).1 hy zeroD
  rw [hn, side_eq hk] at a
  obtain ⟨e1, e2, e3⟩ := opD_inj (a.symm.trans b)
  obtain ⟨p, k, n⟩ := x
  obtain ⟨p', k', n'⟩ := y
  simp only at e1 e2 hn
  rw [e1, e2, hn]
theorem Rel.got (h : Rel Di Dp l) {s : ByteArray} {k : Int} {x : Op3} (hx : x ∈ l) (hk : keyB s (isPreF k) x = true) : Maps.has (sideD k Di Dp) (keyN s) = true ∧ ∀ zd, (sideD k Di Dp).atKey (keyN s) zd = opD x.p x.k x.n := by
  obtain ⟨h1, h2⟩ := keyB_yes hk
  have a : ∀ zd, (sideD k Di Dp).atKey (keyN s) zd = opD x.p x.k x.n := fun zd => by
    rw [← h1, ← side_eq h2]
    exact (h.mem x).1 hx zd
  exact ⟨has_true_of_atKey a, a⟩
theorem Rel.any (h : Rel Di Dp l) (s : ByteArray) (k : Int) : l.any (keyB s (isPreF k)) = Maps.has (sideD k Di Dp) (keyN s) := by
  rw [Bool.eq_iff_iff]
  constructor
  · intro ha
    obtain ⟨x, hx, hk⟩ := List.any_eq_true.1 ha
    exact (h.got hx hk).1
  · intro hh
    obtain ⟨p, k', n, h1, h2, h3⟩ := (h.fine k).2 s.data.toList hh
    have hn : n = s := by
      have e : n.data = s.data := Array.toList_inj.1 h2
      obtain ⟨a⟩ := n
      obtain ⟨b⟩ := s
      rw [show a = b from e]
    subst hn
    refine List.any_eq_true.2 ⟨⟨p, k', n⟩, (h.mem _).2 (fun zd => ?_), keyB_mk rfl h3⟩
    rw [side_eq (k := k') (k' := k) h3]
    exact h1 zd
/-- What is found. -/
theorem Rel.find (h : Rel Di Dp l) (s : ByteArray) (k : Int) : match l.find? (keyB s (isPreF k)) with
    | some x => Maps.has (sideD k Di Dp) (keyN s) = true ∧ ∀ zd, (sideD k Di Dp).atKey (keyN s) zd = opD x.p x.k x.n
    | none => Maps.has (sideD k Di Dp) (keyN s) = false := by
  cases hf : l.find? (keyB s (isPreF k)) with
  | some x => exact h.got (List.mem_of_find?_eq_some hf) (List.find?_some hf)
  | none =>
    show Maps.has (sideD k Di Dp) (keyN s) = false
    rw [← h.any]
    rw [List.any_eq_false]
    exact List.find?_eq_none.1 hf
/-- The list behind a Set that is taken. -/
def setL (l : List Op3) (p k : Int) (s : ByteArray) : List Op3 :=
  match l.findIdx? (keyB s (isPreF k)) with
  | some i => if 0 < p then l.set i ⟨p, k, s⟩ else l.eraseIdx i
  | none => if 0 < p then l ++ [⟨p, k, s⟩] else l
theorem split_at {f : Op3 → Bool} {i : Nat} (h : l.findIdx? f = some i) : ∃ l1 y l2, l = l1 ++ y :: l2 ∧ l1.length = i ∧ f y = true := by
  obtain ⟨hi, hf, _⟩ := List.findIdx?_eq_some_iff_getElem.1 h
  refine ⟨l.take i, l[i], l.drop (i + 1), ?_, by rw [List.length_take]; omega, hf⟩
  rw [← List.drop_eq_getElem_cons hi, List.take_append_drop]
theorem set_mid (l1 l2 : List Op3) (y o : Op3) : (l1 ++ y :: l2).set l1.length o = l1 ++ o :: l2 := by simp
theorem erase_mid (l1 l2 : List Op3) (y : Op3) : (l1 ++ y :: l2).eraseIdx l1.length = l1 ++ l2 := by
  rw [List.eraseIdx_append_of_length_le (Nat.le_refl _), Nat.sub_self]
  rfl
theorem Rel.set (h : Rel Di Dp l) {p k : Int} {s : ByteArray} (hE : setE Di Dp p k s = 0) : Rel (setI Di Dp p k s) (setP Di Dp p k s) (setL l p k s) := by
  obtain ⟨gi, gp⟩ := fine_set h.fi h.fp p k s
  have hty : isTypeF k = true := by
    unfold setE at hE
    split at hE
    · cases hE
    · split at hE
      · cases hE
      · split at hE
        · cases hE
        · rename_i h3
          simpa using h3
  have hoth := fun {x : Op3} (hx : otherB s k x = true) => at_other (Di := Di) (Dp := Dp) (p := p) hx
  have hsam := fun {x : Op3} (hx : otherB s k x = false) => at_same (x := x) h.fi h.fp hE hx
  have hself : otherB s k ⟨p, k, s⟩ = false := otherB_self p k s
  unfold setL
  cases hf : l.findIdx? (keyB s (isPreF k)) with
  | some i =>
    obtain ⟨l1, y, l2, hl, hi, hy⟩ := split_at hf
    subst hi
    have hyo : otherB s k y = false := by rw [keyB_other] at hy; simpa using hy
    have hnd := h.nodup
    rw [hl] at hnd
    have hnd2 : (l1 ++ l2).Nodup ∧ y ∉ l1 ++ l2 := by
      have := (List.perm_middle (a := y)).nodup_iff.1 hnd
      rw [List.nodup_cons] at this
      exact ⟨this.2, this.1⟩
    have hrest : ∀ x, x ∈ l1 ++ l2 → otherB s k x = true := fun x hx => by
      cases ho : otherB s k x with
      | true => rfl
      | false =>
        exfalso
        obtain ⟨e1, e2⟩ := otherB_false ho
        obtain ⟨f1, f2⟩ := otherB_false hyo
        have hxl : x ∈ l := by rw [hl]; rw [List.mem_append] at hx ⊢; rcases hx with hx | hx; exact .inl hx; exact .inr (List.mem_cons_of_mem _ hx)
        have hyl : y ∈ l := by rw [hl]; simp
        have := h.one hxl hyl (e1.trans f1.symm) (e2.trans f2.symm)
        subst this
        exact hnd2.2 hx
    have hmem : ∀ x, otherB s k x = true → (x ∈ l1 ++ l2 ↔ At Di Dp x) := fun x hx => by
      rw [← h.mem x, hl, List.mem_append, List.mem_append, List.mem_cons]
      have hne : x ≠ y := fun e => by rw [e, hyo] at hx; cases hx
      constructor
      · rintro (a | a); exact .inl a; exact .inr (.inr a)
      · rintro (a | a | a); exact .inl a; exact absurd a hne; exact .inr a
    have hty2 : ∀ x ∈ l1 ++ l2, isTypeF x.k = true := fun x hx => h.ty x (by rw [hl]; rw [List.mem_append] at hx ⊢; rcases hx with hx | hx; exact .inl hx; exact .inr (List.mem_cons_of_mem _ hx))
    by_cases hp : 0 < p
    · show Rel _ _ (if 0 < p then l.set l1.length ⟨p, k, s⟩ else _)
      rw [if_pos hp, hl, set_mid]
      have hmo : ∀ x, x ∈ l1 ++ (⟨p, k, s⟩ : Op3) :: l2 ↔ (x = ⟨p, k, s⟩ ∨ x ∈ l1 ++ l2) := fun x => by
        rw [List.mem_append, List.mem_append, List.mem_cons]
        constructor
        · rintro (a | a | a); exact .inr (.inl a); exact .inl a; exact .inr (.inr a)
        · rintro (a | a | a); exact .inr (.inl a); exact .inl a; exact .inr (.inr a)
      refine ⟨gi, gp, fun x => ?_, ?_, ?_⟩
      · rw [hmo]
        cases ho : otherB s k x with
        | true =>
          rw [hoth ho, ← hmem x ho]
          exact ⟨fun a => a.resolve_left (fun e => by rw [e, hself] at ho; cases ho), .inr⟩
        | false =>
          rw [hsam ho]
          exact ⟨fun a => a.elim (fun e => ⟨hp, e⟩) (fun a => by rw [hrest x a] at ho; cases ho), fun a => .inl a.2⟩
      · rw [List.perm_middle.nodup_iff, List.nodup_cons]
        exact ⟨(fun a => by rw [hrest _ a] at hself; cases hself), hnd2.1⟩
      · intro x hx
        rcases (hmo x).1 hx with e | hx
        · rw [e]; exact hty
        · exact hty2 x hx
    · show Rel _ _ (if 0 < p then _ else l.eraseIdx l1.length)
      rw [if_neg hp, hl, erase_mid]
      refine ⟨gi, gp, fun x => ?_, hnd2.1, hty2⟩
      cases ho : otherB s k x with
      | true => rw [hoth ho, ← hmem x ho]
      | false =>
        rw [hsam ho]
        exact ⟨(fun a => by rw [hrest x a] at ho; cases ho), (fun a => absurd a.1 hp)⟩
  | none =>
    have hrest : ∀ x, x ∈ l → otherB s k x = true := fun x hx => by
      have h1 := List.findIdx?_eq_none_iff.1 hf x hx
      rw [keyB_other] at h1
      simpa using h1
    have hno : Maps.has (sideD k Di Dp) (keyN s) = false := by
      rw [← h.any, List.any_eq_false]
      intro x hx
      have h1 := List.findIdx?_eq_none_iff.1 hf x hx
      rw [h1]
      decide
    have hp : 0 < p := by
      apply Classical.byContradiction
      intro hp
      unfold setE at hE
      split at hE
      · cases hE
      · split at hE
        · cases hE
        · split at hE
          · cases hE
          · split at hE
            · cases hE
            · simp [hp, hno] at hE
    show Rel _ _ (if 0 < p then l ++ [⟨p, k, s⟩] else l)
    rw [if_pos hp]
    have hmo : ∀ x, x ∈ l ++ [(⟨p, k, s⟩ : Op3)] ↔ (x = ⟨p, k, s⟩ ∨ x ∈ l) := fun x => by
      rw [List.mem_append, List.mem_singleton]
      exact Or.comm
    refine ⟨gi, gp, fun x => ?_, ?_, ?_⟩
    · rw [hmo]
      cases ho : otherB s k x with
      | true =>
        rw [hoth ho, ← h.mem x]
        exact ⟨fun a => a.resolve_left (fun e => by rw [e, hself] at ho; cases ho), .inr⟩
      | false =>
        rw [hsam ho]
        exact ⟨fun a => a.elim (fun e => ⟨hp, e⟩) (fun a => by rw [hrest x a] at ho; cases ho), fun a => .inl a.2⟩
    · rw [List.nodup_append]
      refine ⟨h.nodup, by simp, fun a ha b hb e => ?_⟩
      rw [List.mem_singleton] at hb
      rw [e, hb] at ha
      rw [hrest _ ha] at hself
      cases hself
    · intro x hx
      rcases (hmo x).1 hx with e | hx
      · rw [e]; exact hty
      · exact h.ty x hx
/-- The reference's errors. -/
def setRE (l : List Op3) (p k : Int) (s : ByteArray) : Int :=
  if p < 0 then 1 else if 1200 < p then 1 else if isTypeF k = false then 1 else if maysetB s = false then 90 else
  if 0 < p then (if l.any (keyB s (isPreF k)) = true then 0 else if 64 ≤ l.length then 2 else 0)
  else if l.any (keyB s (isPreF k)) = true then 0 else 4
theorem Rel.err (h : Rel Di Dp l) (hlen : l.length = Maps.size Di + Maps.size Dp) (p k : Int) (s : ByteArray) : setRE l p k s = setE Di Dp p k s := by
  unfold setRE setE
  rw [h.any, hlen]
/-- Does one come ahead of another one? -/
def aheadB (a b : Op3) : Bool := if (a.n.toList == b.n.toList) = true then !(isPreF a.k) && isPreF b.k else Op.bytesLess a.n.toList b.n.toList
theorem less_cmp : ∀ a b : List UInt8, Op.bytesLess a b = decide (Lib.compareBytes a b < 0)
  | [], [] => by simp [Op.bytesLess, Lib.compareBytes]
  | _ :: _, [] => by simp [Op.bytesLess, Lib.compareBytes]
  | [], _ :: _ => by simp [Op.bytesLess, Lib.compareBytes]
  | a :: x, b :: y => by
    rw [Op.bytesLess, Lib.compareBytes, less_cmp x y]
    by_cases h1 : a < b
    · rw [if_pos h1, decide_eq_true h1]; rfl
    · rw [if_neg h1, decide_eq_false h1]
      by_cases h2 : b < a
      · rw [if_pos h2]
        have h3 : (a == b) = false := by
          rw [beq_eq_false_iff_ne]
          intro e
          rw [e] at h2
          exact absurd h2 (UInt8.lt_irrefl _)
        rw [h3]
        rfl
      · rw [if_neg h2]
        have h3 : (a == b) = true := by
          rw [beq_iff_eq]
          exact UInt8.le_antisymm (UInt8.not_lt.1 h2) (UInt8.not_lt.1 h1)
        rw [h3]
        simp
theorem cB_self : ∀ a : List UInt8, Lib.compareBytes a a = 0
  | [] => rfl
  | a :: x => by rw [Lib.compareBytes, if_neg (UInt8.lt_irrefl _), if_neg (UInt8.lt_irrefl _), cB_self x]
theorem type_pre {k : Int} (h : isTypeF k = true) : (isPreF k = false → k ≤ 3) ∧ (isPreF k = true → 4 ≤ k) := by
  unfold isTypeF at h
  unfold isPreF
  simp only [Bool.and_eq_true, decide_eq_true_eq] at h
  simp only [Bool.or_eq_false_iff, Bool.or_eq_true, beq_eq_false_iff_ne, beq_iff_eq]
  omega
theorem Rel.ahead (h : Rel Di Dp l) {x y : Op3} (hx : x ∈ l) (hy : y ∈ l) : aheadB x y = ltO x y := by
  unfold aheadB ltO cfO
  rw [ByteArray.toList_eq, ByteArray.toList_eq]
  by_cases he : (x.n.data.toList == y.n.data.toList) = true
  · rw [if_pos he]
    have he2 : x.n.data.toList = y.n.data.toList := by simpa using he
    rw [he2, cB_self, if_neg (by simp)]
    obtain ⟨x1, x2⟩ := type_pre (h.ty x hx)
    obtain ⟨y1, y2⟩ := type_pre (h.ty y hy)
    have hn : x.n = y.n := by
      have e : x.n.data = y.n.data := Array.toList_inj.1 he2
      generalize x.n = a at e ⊢
      generalize y.n = b at e ⊢
      obtain ⟨a⟩ := a
      obtain ⟨b⟩ := b
      rw [show a = b from e]
    unfold Lib.compareInt
    cases hpx : isPreF x.k with
    | true =>
      cases hpy : isPreF y.k with
      | true =>
        have := h.one hx hy hn (by rw [hpx, hpy])
        subst this
        simp
      | false =>
        have := x2 hpx
        have := y1 hpy
        rw [if_neg (by omega), if_pos (by omega)]
        rfl
    | false =>
      cases hpy : isPreF y.k with
      | true =>
        have := x1 hpx
        have := y2 hpy
        rw [if_pos (by omega)]
        rfl
      | false =>
        have := h.one hx hy hn (by rw [hpx, hpy])
        subst this
        simp
  · rw [if_neg he, less_cmp]
    have hne : Lib.compareBytes x.n.data.toList y.n.data.toList ≠ 0 := fun e => he (by rw [beq_iff_eq]; exact (cB_zero _ _).1 e)
    rw [if_pos hne]
/-- One put among those in order. -/
def insO (o : Op3) : List Op3 → List Op3
  | [] => [o]
  | y :: r => if aheadB y o = true then y :: insO o r else o :: y :: r
def allR (l : List Op3) : List Op3 := l.foldl (fun out o => insO o out) []
theorem ins_mem (o : Op3) : ∀ (r : List Op3) (x : Op3), x ∈ insO o r ↔ x = o ∨ x ∈ r
  | [], x => by simp [insO]
  | y :: r, x => by
    rw [insO]
    split
    · rw [List.mem_cons, ins_mem o r, List.mem_cons]
      constructor
      · rintro (a | a | a); exact .inr (.inl a); exact .inl a; exact .inr (.inr a)
      · rintro (a | a | a); exact .inr (.inl a); exact .inl a; exact .inr (.inr a)
    · rw [List.mem_cons]
theorem ins_sorted (o : Op3) : ∀ (r : List Op3), (∀ y ∈ r, aheadB y o = ltO y o) → (∀ y ∈ r, ltO y o = false → ltO o y = true) → r.Pairwise (fun x y => ltO x y = true) → (insO o r).Pairwise (fun x y => ltO x y = true)
  | [], _, _, _ => by simp [insO]
  | y :: r, h1, h2, h3 => by
    rw [insO]
    rw [List.pairwise_cons] at h3
    have hy := h1 y List.mem_cons_self
    split
    · rename_i ha
      rw [List.pairwise_cons]
      refine ⟨fun z hz => ?_, ins_sorted o r (fun z hz => h1 z (List.mem_cons_of_mem _ hz)) (fun z hz => h2 z (List.mem_cons_of_mem _ hz)) h3.2⟩
      rcases (ins_mem o r z).1 hz with e | hz
      · rw [e, ← hy]; exact ha
      · exact h3.1 z hz
    · rename_i ha
      have hyo : ltO o y = true := h2 y List.mem_cons_self (by rw [← hy]; simpa using ha)
      rw [List.pairwise_cons]
      refine ⟨fun z hz => ?_, ?_⟩
      · rcases List.mem_cons.1 hz with e | hz
        · rw [e]; exact hyo
        · exact cfO_swo.trans _ _ _ hyo (h3.1 z hz)
      · rw [List.pairwise_cons]; exact h3
theorem fold_ins (h : Rel Di Dp l) : ∀ (t done out : List Op3), l = done ++ t → (∀ x, x ∈ out ↔ x ∈ done) → out.Pairwise (fun x y => ltO x y = true) → (∀ x, x ∈ t.foldl (fun out o => insO o out) out ↔ x ∈ l) ∧ (t.foldl (fun out o => insO o out) out).Pairwise (fun x y => ltO x y = true)
  | [], done, out, hl, hm, hs => by
    rw [List.append_nil] at hl
    subst hl
    exact ⟨hm, hs⟩
  | o :: t, done, out, hl, hm, hs => by
    have hol : o ∈ l := by rw [hl]; simp
    have hdl : ∀ y, y ∈ out → y ∈ l := fun y hy => by rw [hl]; exact List.mem_append_left _ ((hm y).1 hy)
    have hod : ∀ y, y ∈ out → y ≠ o := fun y hy e => by
      have hnd := h.nodup
      rw [hl, List.nodup_append] at hnd
      exact hnd.2.2 y ((hm y).1 hy) o List.mem_cons_self e
    refine fold_ins h t (done ++ [o]) (insO o out) (by rw [hl]; simp) (fun x => ?_) (ins_sorted o out (fun y hy => h.ahead (hdl y hy) hol) (fun y hy e => ?_) hs)
    · rw [ins_mem, hm, List.mem_append, List.mem_singleton]
      exact Or.comm
    · cases e2 : ltO o y with
      | true => rfl
      | false =>
        obtain ⟨q1, q2⟩ := same_nk e e2
        exact absurd (h.one (hdl y hy) hol q1 (by rw [q2])) (hod y hy)
/-- What the reference tells in order is what the table tells. -/
theorem Rel.all (h : Rel Di Dp l) {xs : List Op3} (hx : AllIs Di Dp xs) : allR l = xs ∧ l.length = Maps.size Di + Maps.size Dp := by
  obtain ⟨h1, h2⟩ := fold_ins h l [] [] rfl (fun x => Iff.rfl) List.Pairwise.nil
  have h3 := all_mem h.fi h.fp hx
  refine ⟨strict_ext cfO_swo _ _ h2 (all_strict h.fi h.fp hx) (fun x => by rw [h3, ← h.mem]; exact h1 x), ?_⟩
  rw [← allIs_len hx]
  refine ((List.perm_ext_iff_of_nodup h.nodup (all_nodup h.fi h.fp hx)).2 (fun x => ?_)).length_eq
  rw [h.mem, h3]
/-- One more is put in, whose name was free. -/
theorem Rel.put (h : Rel Di Dp l) (p k : Int) (n : ByteArray) (hk : isTypeF k = true) (hno : Maps.has (sideD k Di Dp) (keyN n) = false) :
    Rel (if isPreF k = true then Di else Di.put (keyN n) (opD p k n)) (if isPreF k = true then Dp.put (keyN n) (opD p k n) else Dp) (l ++ [⟨p, k, n⟩]) := by
  have hside : ∀ k', sideD k' (if isPreF k = true then Di else Di.put (keyN n) (opD p k n)) (if isPreF k = true then Dp.put (keyN n) (opD p k n) else Dp) = if isPreF k' = isPreF k then (sideD k Di Dp).put (keyN n) (opD p k n) else sideD k' Di Dp := fun k' => by
    unfold sideD
    cases isPreF k' <;> cases isPreF k <;> simp
  have hm : IsMap (sideD k Di Dp) := (h.fine k).1
  have hrest : ∀ x, x ∈ l → otherB n k x = true := fun x hx => by
    cases ho : otherB n k x with
    | true => rfl
    | false =>
      have := (h.got hx (by rw [keyB_other, ho]; rfl)).1
      rw [hno] at this
      cases this
  refine ⟨?_, ?_, fun x => ?_, ?_, ?_⟩
  · split
    · exact h.fi
    · rename_i hq
      exact h.fi.put p k n (by simpa using hq)
  · split
    · rename_i hq
      exact h.fp.put p k n hq
    · exact h.fp
  · rw [List.mem_append, List.mem_singleton]
    unfold At
    rw [hside]
    by_cases hkk : isPreF x.k = isPreF k
    · rw [if_pos hkk]
      by_cases hn : x.n = n
      · rw [hn]
        constructor
        · rintro (a | a)
          · exfalso
            have h1 := hrest x a
            unfold otherB at h1
            rw [hn, hkk] at h1
            simp at h1
          · intro zd
            rw [atKey_put_same hm (keyN_key n), a]
        · intro hz
          have e := hz zeroD
          rw [atKey_put_same hm (keyN_key n)] at e
          obtain ⟨e1, e2, _⟩ := opD_inj e
          right
          obtain ⟨p', k', n'⟩ := x
          simp only at e1 e2 hn
          rw [e1, e2, hn]
      · have hne : keyN x.n ≠ keyN n := fun e => hn (keyN_inj e)
        simp only [atKey_put_other hne]
        rw [← side_eq hkk]
        constructor
        · rintro (a | a)
          · exact (h.mem x).1 a
          · rw [a] at hn; exact absurd rfl hn
        · intro a
          exact .inl ((h.mem x).2 a)
    · rw [if_neg hkk]
      constructor
      · rintro (a | a)
        · exact (h.mem x).1 a
        · rw [a] at hkk; exact absurd rfl hkk
      · intro a
        exact .inl ((h.mem x).2 a)
  · rw [List.nodup_append]
    refine ⟨h.nodup, by simp, fun a ha b hb e => ?_⟩
    rw [List.mem_singleton] at hb
    rw [e, hb] at ha
    have := hrest _ ha
    rw [otherB_self] at this
    cases this
  · intro x hx
    rcases List.mem_append.1 hx with hx | hx
    · exact h.ty x hx
    · rw [List.mem_singleton] at hx
      rw [hx]
      exact hk
theorem Rel.start : Rel (.map []) (.map []) [] := ⟨Fine.empty false, Fine.empty true, fun x => ⟨(fun h => by cases h), (fun h => by
  exfalso
  have h2 := has_true_of_atKey h
  unfold sideD at h2
  split at h2 <;> cases h2)⟩, List.nodup_nil, (fun x hx => by cases hx)⟩
/-- The names are free, one after another. -/
def freshF (p k : Int) : List ByteArray → D1 → Bool
  | [], _ => true
  | n :: r, D => !(Maps.has D (keyN n)) && freshF p k r (D.put (keyN n) (opD p k n))
theorem Rel.putsI : ∀ (ns : List ByteArray) {Di Dp : D1} {l : List Op3} (_ : Rel Di Dp l) (p k : Int) (_ : isTypeF k = true) (_ : isPreF k = false) (_ : freshF p k ns Di = true), Rel (putsF p k ns Di) Dp (l ++ ns.map (fun n => ⟨p, k, n⟩))
  | [], Di, Dp, l, h, p, k, _, _, _ => by simpa [putsF] using h
  | n :: r, Di, Dp, l, h, p, k, ht, hk, hf => by
    rw [freshF, Bool.and_eq_true, Bool.not_eq_true'] at hf
    have h1 := h.put p k n ht (by unfold sideD; rw [if_neg (by rw [hk]; decide)]; exact hf.1)
    rw [if_neg (by rw [hk]; decide), if_neg (by rw [hk]; decide)] at h1
    have h2 := Rel.putsI r h1 p k ht hk hf.2
    rw [List.append_assoc] at h2
    exact h2
theorem Rel.putsP : ∀ (ns : List ByteArray) {Di Dp : D1} {l : List Op3} (_ : Rel Di Dp l) (p k : Int) (_ : isTypeF k = true) (_ : isPreF k = true) (_ : freshF p k ns Dp = true), Rel Di (putsF p k ns Dp) (l ++ ns.map (fun n => ⟨p, k, n⟩))
  | [], Di, Dp, l, h, p, k, _, _, _ => by simpa [putsF] using h
  | n :: r, Di, Dp, l, h, p, k, ht, hk, hf => by
    rw [freshF, Bool.and_eq_true, Bool.not_eq_true'] at hf
    have h1 := h.put p k n ht (by unfold sideD; rw [if_pos hk]; exact hf.1)
    rw [if_pos hk, if_pos hk] at h1
    have h2 := Rel.putsP r h1 p k ht hk hf.2
    rw [List.append_assoc] at h2
    exact h2
/-- The reference's list at the beginning. -/
def l0 : List Op3 := [⟨1200, 1, nm0.headD default⟩] ++ nm1.map (fun n => ⟨1200, 5, n⟩) ++ nm2.map (fun n => ⟨1100, 2, n⟩) ++ nm3.map (fun n => ⟨1050, 2, n⟩) ++ nm4.map (fun n => ⟨1000, 2, n⟩) ++ nm5.map (fun n => ⟨900, 4, n⟩) ++ nm6.map (fun n => ⟨700, 1, n⟩) ++ nm7.map (fun n => ⟨500, 3, n⟩) ++ nm8.map (fun n => ⟨400, 3, n⟩) ++ nm9.map (fun n => ⟨200, 2, n⟩) ++ nm10.map (fun n => ⟨200, 4, n⟩)
theorem rel0 : Rel Di0 Dp0 l0 := by
  have h0 := Rel.putsI nm0 Rel.start 1200 1 (by decide) (by decide) (by kernel_rfl)
  have h1 := Rel.putsP nm1 h0 1200 5 (by decide) (by decide) (by kernel_rfl)
  have h2 := Rel.putsI nm2 h1 1100 2 (by decide) (by decide) (by kernel_rfl)
  have h3 := Rel.putsI nm3 h2 1050 2 (by decide) (by decide) (by kernel_rfl)
  have h4 := Rel.putsI nm4 h3 1000 2 (by decide) (by decide) (by kernel_rfl)
  have h5 := Rel.putsP nm5 h4 900 4 (by decide) (by decide) (by kernel_rfl)
  have h6 := Rel.putsI nm6 h5 700 1 (by decide) (by decide) (by kernel_rfl)
  have h7 := Rel.putsI nm7 h6 500 3 (by decide) (by decide) (by kernel_rfl)
  have h8 := Rel.putsI nm8 h7 400 3 (by decide) (by decide) (by kernel_rfl)
  have h9 := Rel.putsI nm9 h8 200 2 (by decide) (by decide) (by kernel_rfl)
  have h10 := Rel.putsP nm10 h9 200 4 (by decide) (by decide) (by kernel_rfl)
  exact h10
end Go.Proofs.YtodgjkdhkohckaaDoor.opers
