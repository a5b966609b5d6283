/- Cells are taken at the top. -/
import Derived.Test.YtaplfibhhdngbaaPool16
namespace Go.Proofs.Ytaplfibhhdngbaa.pools
open Go.RowKit Go.Proofs.Ytaplfibhhdngbaa.own Go.Proofs.Ytaplfibhhdngbaa.trees Go.Proofs.Ytaplfibhhdngbaa.rows
variable {Sm S : Nat → Prop} {B b k sz : Nat} {so : Option Addr} {scap : Nat} {ao : Option Addr} {cap : Nat} {T : List Int} {f : Nat → Nat} {lim : Nat} {F : List Bool} {St : List Nat} {w w' : World} {o : Nat}
theorem more_get (F : List Bool) (n j : Nat) : (F ++ List.replicate n false).getD j false = F.getD j false := by
  simp only [List.getD_eq_getElem?_getD]
  rcases Nat.lt_or_ge j F.length with h | h
  · rw [List.getElem?_append_left h]
  · rw [List.getElem?_append_right h, List.getElem?_eq_none (l := F) h, List.getElem?_replicate]
    split <;> rfl
theorem PoolAt.more (h : PoolAt Sm S B b k sz so scap ao cap T f lim F St w) {n : Nat} {w1 : World} (hl : F.length + n ≤ lim) (hs : F.length + n ≤ sz) (e : w1 = w.setCell ⟨b, 1, none⟩ (.int .i64 ((F.length + n : Nat) : Int))) :
    PoolAt Sm S B b k sz so scap ao cap T f lim (F ++ List.replicate n false) St w1 ∧ Only S w w1 := by
  have hlen : (F ++ List.replicate n false).length = F.length + n := by simp
  have o2 : Only (· = b) w w1 := by subst e; exact Only.setCell (S := (· = b)) w (p := ⟨b, 1, none⟩) rfl _
  have hall : Only S w w1 := o2.mono (fun j _ hj => by rw [hj]; exact h.inS.1)
  refine ⟨⟨?_, h.starts.only o2 (fun g hg e => h.apart.1 g hg e), h.most.only o2 (fun g hg e => h.apart.2.1 g hg e), h.tree, h.few, h.small, h.leaf, h.rest, h.inv.congr (fun j => more_get F n j) (fun _ => Iff.rfl) (fun _ => rfl), by omega, ⟨by omega, h.limit.2⟩, h.first, h.rising, fun s hs' => by have := h.below s hs'; omega, h.segs, h.inS, fun j hj => ?_, h.apart⟩, hall⟩
  · subst e
    rw [blk_set h.blk 1 _]
    unfold poolCells
    rw [hlen, count_append]
    rfl
  · have := h.own j hj
    exact ⟨this.1, Nat.lt_of_lt_of_le this.2 hall.size⟩
/-- Behind grow: a pool with a greater tree. -/
theorem PoolAt.grown (h : PoolAt Sm S B b k sz so scap ao cap T f lim F St w) {n : Nat} {w1 w2 : World} {k' s : Nat} {T' : List Int} (hl : F.length + n ≤ lim) (hsz : sz < F.length + n) (e : w1 = w.setCell ⟨b, 1, none⟩ (.int .i64 ((F.length + n : Nat) : Int)))
    (hg : Grown B b 3 sz (F.length + n) T (#[.int .i64 lim, .int .i64 ((F.length + n : Nat) : Int), .slice so St.length scap, .int .i64 sz, .slice ao T.length cap, .int .i64 (count F)]) 56 w1 w2 k' s T') :
    PoolAt Sm (Grew S w w2) B b k' s so scap (some ⟨w1.heap.size, 0, none⟩) (2 * s) T' f lim (F ++ List.replicate n false) St w2 ∧ Only S w w2 := by
  have hlen : (F ++ List.replicate n false).length = F.length + n := by simp
  have o1 : Only (· = b) w w1 := by subst e; exact Only.setCell (S := (· = b)) w (p := ⟨b, 1, none⟩) rfl _
  have hall : Only S w w2 := (o1.same hg.only).mono (fun j _ hj => by rw [hj]; exact h.inS.1)
  have hs1 : w1.heap.size = w.heap.size := by subst e; simp [World.setCell]
  have hTl : T'.length = 2 * s := hg.runs.len
  have hbs := h.own b h.inS.1
  have hnew : w1.heap.size < w2.heap.size := (hg.runs.row.head _ rfl).2.2
  have hB : B ≤ w1.heap.size := (hg.runs.row.head _ rfl).2.1
  refine ⟨⟨?_, ?_, hg.runs.row, .inr ⟨hg.runs.tree, hg.runs.size⟩, hg.runs.few, hg.runs.small, fun q hq => ?_, fun q hq => ?_, h.inv.congr (fun j => more_get F n j) (fun _ => Iff.rfl) (fun _ => rfl), by have := hg.room; omega, ⟨by omega, h.limit.2⟩, h.first, h.rising, fun s' hs' => by have := h.below s' hs'; omega, h.segs, ?_, fun j hj => ?_, ?_⟩, hall⟩
  · rw [hg.block]
    unfold poolCells
    rw [hlen, count_append, hTl]
    rfl
  · exact (h.starts.only o1 (fun g hg' e => h.apart.1 g hg' e)).only hg.only (fun g hg' e => h.apart.1 g hg' e)
  · rw [hg.leaf q hq]
    unfold wide
    split
    · rename_i hq2; exact h.leaf q hq2
    · rename_i hq2; rw [h.rest q (by omega)]; rfl
  · exact h.rest q (by have := hg.room; omega)
  · refine ⟨.inl h.inS.1, fun g hg' => .inl (h.inS.2.1 g hg'), fun g hg' => ?_⟩
    cases hg'
    right
    exact ⟨by simp only; omega, hnew⟩
  · rcases hj with hj | hj
    · have := h.own j hj
      exact ⟨this.1, Nat.lt_of_lt_of_le this.2 hall.size⟩
    · omega
  · refine ⟨h.apart.1, fun g hg' e2 => ?_, fun g g' hg1 hg2 e2 => ?_⟩
    · cases hg'
      simp only at e2
      omega
    · cases hg2
      have := (h.starts.head g hg1).2.2
      simp only at e2
      omega
end Go.Proofs.Ytaplfibhhdngbaa.pools
