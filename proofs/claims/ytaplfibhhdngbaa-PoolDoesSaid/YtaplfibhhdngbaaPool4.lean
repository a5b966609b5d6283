/- The rows' tree grows: the operations' laws, and what the loops keep. -/
import Derived.Test.YtaplfibhhdngbaaPool3
import Derived.OwnWalk
import Derived.Laws.CopyOwn
namespace Go.Proofs.Ytaplfibhhdngbaa.pools
open Go.RowKit Go.Proofs.Ytaplfibhhdngbaa.own Go.Proofs.Ytaplfibhhdngbaa.trees
variable {B b o k sz : Nat} {ao : Option Addr} {cap : Nat} {T : List Int} {w : World}
/-- A power of two, no greater than the greatest pool. -/
def Pow (s : Nat) : Prop := ∃ k, s = 2 ^ k ∧ k ≤ 20
theorem Pow.next {s p : Nat} (h : Pow s) (hp : s < p) (hm : p ≤ 1048576) : Pow (2 * s) := by
  obtain ⟨k, rfl, hk⟩ := h
  refine ⟨k + 1, by rw [pow_succ2], ?_⟩
  rcases Nat.lt_or_ge k 20 with h | h
  · omega
  · have : k = 20 := by omega
    subst this
    simp at hp
    omega
theorem Pow.le {s : Nat} (h : Pow s) : 1 ≤ s ∧ s ≤ 1048576 := by
  obtain ⟨k, rfl, hk⟩ := h
  have := pow_pos2 k
  have h2 : 2 ^ k ≤ 2 ^ 20 := Nat.pow_le_pow_right (by omega) hk
  simp at h2
  omega
theorem flat32 (T : List Int) : T.flatMap enc32 = T.map (Value.int .i32) := by
  induction T with
  | nil => rfl
  | cons x r ih => rw [List.flatMap_cons, ih]; rfl
theorem made32 (n : Nat) : (madeCells (Value.int .i32 0).cells (n * 1)).toList = List.replicate n (Value.int .i32 0) := by
  apply List.ext_getElem
  · simp [madeCells]
  · intro i h1 h2
    simp [madeCells, Value.cells, Nat.mod_one]

theorem wp_make32 {P : Program} (w : World) {ops : Array Oper} {rest : List Oper} {o : Oper} {a : Act} {Q : Exit → Act → World → Prop}
    (hg : o.guard = none) (l c : Operand) (t : TypeId) (hop : o.op = Op.makeSlice t l c)
    (B : Nat) (i : TypeInfo) (ht : P.underlying t = some (.slice 21)) (hi : P.info? 21 = some i) (hz : i.zero = some (.int .i32 0)) (hsize : i.size = 1) (hby : i.bytes = 4)
    (kl kc : IntKind) (L C : Int) (n : Nat) (hl : a.eval l = .int kl L) (hc : a.eval c = .int kc C) (hL : L = (n : Int)) (hC : C = (n : Int)) (hn : n ≤ 4194304) (hB : B ≤ w.heap.size)
    (hK : ∀ w', MostP B (some ⟨w.heap.size, 0, none⟩) n (List.replicate n 0) w' → Only (fun _ => False) w w' → wpList P ops Q rest (a.put o.dst (.slice (some ⟨w.heap.size, 0, none⟩) n n)) w') :
    wpList P ops Q (o :: rest) a w := by
  refine wpList_make_full w hg l c t hop B 21 i (.int .i32 0) 1 ht hi hz hsize kl kc L C n hl hc hL hC (by rw [hby]; omega) (by unfold maxLen; omega) hB ?_
  intro w' hown hgrow
  refine hK w' ?_ ((Only.grown hgrow).mono (fun k _ e => by cases e))
  rw [made32] at hown
  unfold MostP RowOf
  rw [flat32]
  simpa using hown

theorem take_splice {α : Type} (ms cur cs : List α) (off : Nat) (h : cur.take ms.length = ms) (hfit : off + cs.length ≤ ms.length) : (cur.take off ++ (cs ++ cur.drop (off + cs.length))).take ms.length = ms.take off ++ (cs ++ ms.drop (off + cs.length)) := by
  obtain ⟨r, rfl⟩ : ∃ r, cur = ms ++ r := ⟨cur.drop ms.length, by conv => lhs; rw [← List.take_append_drop ms.length cur, h]⟩
  have e1 : (ms ++ r).take off = ms.take off := List.take_append_of_le_length (by omega)
  have e2 : (ms ++ r).drop (off + cs.length) = ms.drop (off + cs.length) ++ r := List.drop_append_of_le_length (by omega)
  rw [e1, e2, show ∀ (A C D E : List α), A ++ (C ++ (D ++ E)) = (A ++ (C ++ D)) ++ E from fun A C D E => by simp]
  exact List.take_left' (by simp; omega)

theorem wp_copy32 {P : Program} {ops : Array Oper} {rest : List Oper} {o : Oper} {a : Act} {Q : Exit → Act → World → Prop} (hgd : o.guard = none) (d s : Operand) (dT sT : TypeId)
    (ho : o.op = .call { callee := .builtin .copy, args := #[d, s], argTypes := #[dT, sT] }) (i : TypeInfo) (hu : P.underlying dT = some (.slice 21)) (hi : P.info? 21 = some i) (hsize : i.size = 1)
    (W : World) (B g gcap off dLen dCap sLen sCap : Nat) (sp : Option Addr) (ds cs : List Int) (hd : a.eval d = .slice (some ⟨g, off, none⟩) dLen dCap) (hs : a.eval s = .slice sp sLen sCap) (hn : cs.length = Nat.min sLen dLen) (hfit : off + cs.length ≤ ds.length)
    (hD : MostP B (some ⟨g, 0, none⟩) gcap ds W) (hsrc : 0 < cs.length → ∃ ad, sp = some ad ∧ ∀ j x, cs[j]? = some x → W.cell? (ad.add j) = some (.int .i32 x))
    (h : ∀ w', MostP B (some ⟨g, 0, none⟩) gcap (ds.take off ++ (cs ++ ds.drop (off + cs.length))) w' → Only (· = g) W w' → wpList P ops Q rest (a.put o.dst (goInt cs.length)) w') : wpList P ops Q (o :: rest) a W := by
  have hsz : (P.info? 21).map (·.size) = some 1 := by rw [hi]; simp [hsize]
  by_cases h0 : cs.length = 0
  · have hx : cs = [] := List.eq_nil_of_length_eq_zero h0
    subst hx
    exact wpList_copy_nothing hgd d s dT sT ho 21 hu hsz _ _ _ _ _ _ hd hs (by rw [← hn]; rfl) (h W (by simpa using hD) (Only.refl _ _))
  · obtain ⟨ad, rfl, hcells⟩ := hsrc (by omega)
    obtain ⟨d1, d2⟩ := hD
    rcases d2 with ⟨e1, e2⟩ | ⟨g', cap', cur, hv, hb, hg, hnc, hcm, hcs, htake⟩
    · simp at e1
    · simp only [Value.slice.injEq, Option.some.injEq, Addr.mk.injEq, and_true, true_and] at hv
      obtain ⟨rfl, rfl⟩ := hv
      refine wpList_copy_own hgd d s dT sT ho 21 hu hsz g off dLen dCap ad sLen sCap hd hs cur 21 hg (cs.map (Value.int .i32)) (by simpa using hn) ?_ (by simp; omega) (by intro v hv; simp at hv; obtain ⟨x, _, rfl⟩ := hv; rfl) ?_
      · intro j v hj
        rw [List.getElem?_map] at hj
        cases hx : cs[j]? with
        | none => rw [hx] at hj; simp at hj
        | some x => rw [hx] at hj; simp at hj; subst hj; exact hcells j x hx
      have e3 : (cs.map (Value.int .i32)).length = cs.length := by simp
      rw [e3]
      refine h _ ?_ ⟨rfl, rfl, rfl, by simp, fun k _ hk => setRow_other W g k _ hk⟩
      have hlen : (ds.take off ++ (cs ++ ds.drop (off + cs.length))).length = ds.length := by simp; omega
      unfold MostP RowOf
      rw [hlen]
      refine ⟨by rw [flat32]; simp; omega, .inr ⟨g, gcap, _, rfl, hb, setRow_heap W g cur _ _ _ hg, hnc, hcm, ?_, ?_⟩⟩
      · simp
        omega
      · rw [Nat.mul_one] at htake ⊢
        rw [flat32] at htake ⊢
        have hs := take_splice (ds.map (Value.int .i32)) cur.toList (cs.map (Value.int .i32)) off (by simpa using htake) (by simpa using hfit)
        simp only [List.length_map] at hs
        rw [show ∀ l : List Value, l.toArray.toList = l from fun l => rfl, hs]
        simp only [List.map_append, List.map_take, List.map_drop]
end Go.Proofs.Ytaplfibhhdngbaa.pools
