
/- make([]uint64, n), and copy of a whole row into one as long: the operations' laws. -/
import Derived.Test.YthfilpacmllhpaaRoomLib
import Derived.OwnWalk
import Derived.Laws.CopyOwn
namespace Go.Proofs.Ythfilpacmllhpaa.rooms
open Go.RowKit

theorem madeCells_one (n : Nat) : (madeCells (Value.int .u64 0).cells (n * 1)).toList = List.replicate n (Value.int .u64 0) := by
  apply List.ext_getElem
  · simp [madeCells]
  · intro i h1 h2
    simp [madeCells, Value.cells, Nat.mod_one]

theorem wp_make_words {P : Program} (w : World) {ops : Array Oper} {rest : List Oper} {o : Oper} {a : Act} {Q : Exit → Act → World → Prop}
    (hg : o.guard = none) (l c : Operand) (t : TypeId) (hop : o.op = Op.makeSlice t l c)
    (B E : Nat) (i : TypeInfo) (ht : P.underlying t = some (.slice E)) (hi : P.info? E = some i) (hz : i.zero = some (.int .u64 0)) (hsize : i.size = 1) (hby : i.bytes = 8)
    (kl kc : IntKind) (L C : Int) (n : Nat) (hl : a.eval l = .int kl L) (hc : a.eval c = .int kc C) (hL : L = (n : Int)) (hC : C = (n : Int)) (hn : n ≤ 1048576) (hB : B ≤ w.heap.size)
    (hK : ∀ w', Row E B (some ⟨w.heap.size, 0, none⟩) n (List.replicate n 0) w' → Only (fun _ => False) w w' → wpList P ops Q rest (a.put o.dst (.slice (some ⟨w.heap.size, 0, none⟩) n n)) w') :
    wpList P ops Q (o :: rest) a w := by
  refine wpList_make_full w hg l c t hop B E i (.int .u64 0) 1 ht hi hz hsize kl kc L C n hl hc hL hC (by rw [hby]; omega) (by unfold maxLen; omega) hB ?_
  intro w' hown hgrow
  refine hK w' ?_ ((Only.grown hgrow).mono (fun k _ e => by cases e))
  rw [madeCells_one] at hown
  unfold Row
  simpa using hown

theorem wp_copy_words {P : Program} {ops : Array Oper} {rest : List Oper} {o : Oper} {a : Act} {Q : Exit → Act → World → Prop} (hgd : o.guard = none) (d s : Operand) (dT sT : TypeId)
    (ho : o.op = .call { callee := .builtin .copy, args := #[d, s], argTypes := #[dT, sT] }) (E : TypeId) (i : TypeInfo) (hu : P.underlying dT = some (.slice E)) (hi : P.info? E = some i) (hsize : i.size = 1)
    (W : World) (B B' g dcap scap : Nat) (ao : Option Addr) (ds xs : List Int) (n : Nat) (hd : a.eval d = .slice (some ⟨g, 0, none⟩) n dcap) (hs : a.eval s = .slice ao xs.length scap) (hn : ds.length = n) (hl : ds.length = xs.length)
    (hD : Row E B (some ⟨g, 0, none⟩) dcap ds W) (hX : Row E B' ao scap xs W)
    (h : ∀ w', Row E B (some ⟨g, 0, none⟩) dcap xs w' → Only (· = g) W w' → wpList P ops Q rest (a.put o.dst (goInt xs.length)) w') : wpList P ops Q (o :: rest) a W := by
  subst hn
  have hsz : (P.info? E).map (·.size) = some 1 := by rw [hi]; simp [hsize]
  by_cases h0 : xs.length = 0
  · have hx : xs = [] := List.eq_nil_of_length_eq_zero h0
    have hds : ds = [] := List.eq_nil_of_length_eq_zero (by omega)
    subst hx hds
    exact wpList_copy_nothing hgd d s dT sT ho E hu hsz _ _ _ _ _ _ hd hs (by simp) (h W hD (Only.refl _ _))
  · obtain ⟨d1, d2⟩ := hD
    rcases d2 with ⟨e1, e2⟩ | ⟨g', cap', cur, hv, hb, hg, hnc, hcm, hcs, htake⟩
    · simp at e1
    · simp only [Value.slice.injEq, Option.some.injEq, Addr.mk.injEq, and_true, true_and] at hv
      obtain ⟨rfl, rfl⟩ := hv
      obtain ⟨ad, rfl⟩ : ∃ ad, ao = some ad := by
        rcases hX.2 with ⟨h1, h2⟩ | ⟨g2, cap2, cur2, hv2, _⟩
        · omega
        · simp only [Value.slice.injEq] at hv2; exact ⟨_, hv2.1⟩
      have hh := hX.head ad rfl
      have hsrc := World.ownsRow.cells (g := ad.block) hX rfl
      rw [← hh.1] at hsrc
      refine wpList_copy_own hgd d s dT sT ho E hu hsz g 0 ds.length dcap ad xs.length scap hd hs cur E hg (xs.map (Value.int .u64)) (by simp [hl]) hsrc (by simp; omega) (by intro v hv; simp at hv; obtain ⟨x, _, rfl⟩ := hv; rfl) ?_
      have e3 : (xs.map (Value.int .u64)).length = xs.length := by simp
      rw [e3]
      refine h _ ?_ ⟨rfl, rfl, rfl, by simp, fun k _ hk => setRow_other W g k _ hk⟩
      unfold Row
      refine ⟨by simp, .inr ⟨g, dcap, _, rfl, hb, setRow_heap W g cur _ E _ hg, by omega, hcm, ?_, ?_⟩⟩
      · simp
        omega
      · simp only [Nat.mul_one, List.take_zero, List.nil_append]
        exact List.take_left' (by simp)
end Go.Proofs.Ythfilpacmllhpaa.rooms
