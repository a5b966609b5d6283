/- The rows' tree grows. -/
import Derived.Test.YtaplfibhhdngbaaPool4
namespace Go.Proofs.Ytaplfibhhdngbaa.pools
open Go.RowKit Go.Proofs.Ytaplfibhhdngbaa.own Go.Proofs.Ytaplfibhhdngbaa.trees
variable {B b o k sz : Nat} {ao : Option Addr} {cap : Nat} {T : List Int} {w : World}
/-- The values of a grown tree's places. -/
def wide (sz : Nat) (T : List Int) (q : Nat) : Int := if q < sz then T.getD (sz + q) 0 else 0
/-- While the new tree is built, from its last inner node down to the first. -/
structure Building (B s g sz : Nat) (T : List Int) (w : World) (i : Nat) (T' : List Int) (wr : World) : Prop where
  len : T'.length = 2 * s
  row : MostP B (some ⟨g, 0, none⟩) (2 * s) T' wr
  small : Small T'
  leaf : ∀ q, q < s → T'.getD (s + q) 0 = wide sz T q
  most : ∀ j, i < j → j < s → T'.getD j 0 = max (T'.getD (2 * j) 0) (T'.getD (2 * j + 1) 0)
  only : Only (fun _ => False) w wr
  new : w.heap.size = g
/-- The new row as it is behind the copy. -/
def fresh (s sz : Nat) (T : List Int) : List Int := (List.replicate (2 * s) (0 : Int)).take s ++ (T.drop sz ++ (List.replicate (2 * s) (0 : Int)).drop (s + (T.drop sz).length))
theorem fresh_getD {s : Nat} (hT : T.length = 2 * sz) (hs : sz ≤ s) (j : Nat) : (fresh s sz T).getD j 0 = if s ≤ j ∧ j < s + sz then T.getD (sz + (j - s)) 0 else 0 := by
  unfold fresh
  rw [List.take_replicate, List.drop_replicate, show min s (2 * s) = s by omega]
  simp only [List.getD_eq_getElem?_getD]
  rcases Nat.lt_or_ge j s with h1 | h1
  · rw [List.getElem?_append_left (by simpa using h1), List.getElem?_replicate, if_pos h1, if_neg (by omega)]; rfl
  · rw [List.getElem?_append_right (by simpa using h1), List.length_replicate]
    rcases Nat.lt_or_ge (j - s) sz with h2 | h2
    · rw [List.getElem?_append_left (by rw [List.length_drop]; omega), List.getElem?_drop, if_pos (by omega)]
    · rw [List.getElem?_append_right (by rw [List.length_drop]; omega), if_neg (by omega), List.getElem?_replicate]
      split <;> rfl
theorem fresh_len {s : Nat} (hT : T.length = 2 * sz) (hs : sz ≤ s) : (fresh s sz T).length = 2 * s := by
  unfold fresh
  simp [hT]
  omega
theorem Building.start {s g : Nat} {wr : World} (hT : T.length = 2 * sz) (hs : sz ≤ s) (hsm : Small T) (hrow : MostP B (some ⟨g, 0, none⟩) (2 * s) (fresh s sz T) wr) (ho : Only (fun _ => False) w wr) (hg : w.heap.size = g) : Building B s g sz T w (s - 1) (fresh s sz T) wr := by
  refine ⟨fresh_len hT hs, hrow, ?_, ?_, fun j h1 h2 => by omega, ho, hg⟩
  · intro j
    rw [fresh_getD hT hs]
    split
    · exact hsm _
    · omega
  · intro q hq
    rw [fresh_getD hT hs]
    unfold wide
    by_cases h : q < sz
    · rw [if_pos (by omega), if_pos h, show s + q - s = q by omega]
    · rw [if_neg (by omega), if_neg h]
theorem Building.next {s g i : Nat} {T' : List Int} {wr wr2 : World} (h : Building B s g sz T w i T' wr) (h1 : 1 ≤ i) (h2 : i < s) (m : Nat) (e : wr2 = (wr.drewN m).setCell ⟨g, i, none⟩ (.int .i32 (max (T'.getD (2 * i) 0) (T'.getD (2 * i + 1) 0)))) :
    Building B s g sz T w (i - 1) (T'.set i (max (T'.getD (2 * i) 0) (T'.getD (2 * i + 1) 0))) wr2 := by
  subst e
  have hl := h.len
  have s1 := h.small (2 * i)
  have s2 := h.small (2 * i + 1)
  have hrow : MostP B (some ⟨g, 0, none⟩) (2 * s) T' (wr.drewN m) := h.row.only (Only.drewN (fun _ => False) wr m) (fun _ _ e => e)
  have hp := MostP.put hrow i (by omega) (max (T'.getD (2 * i) 0) (T'.getD (2 * i + 1) 0))
  refine ⟨by rw [List.length_set]; exact hl, hp.1, h.small.set _ (by omega) _ (by omega), ?_, ?_, ?_, h.new⟩
  · intro q hq
    rw [getD_set (by omega), if_neg (by omega)]
    exact h.leaf q hq
  · intro j hj1 hj2
    rw [getD_set (by omega), getD_set (by omega), getD_set (by omega)]
    by_cases e : j = i
    · subst e
      rw [if_pos rfl, if_neg (by omega), if_neg (by omega)]
    · rw [if_neg e, if_neg (by omega), if_neg (by omega)]
      exact h.most j (by omega) hj2
  · refine (h.only.same (Only.drewN _ _ m)).trans hp.2 ?_
    intro k hk e
    have := h.new
    omega
/-- What has grown. -/
structure Grown (B b o sz p : Nat) (T : List Int) (cs : Array Value) (t : TypeId) (w w' : World) (k s : Nat) (T' : List Int) : Prop where
  runs : Runs B b o k s (some ⟨w.heap.size, 0, none⟩) (2 * s) T' w'
  room : p ≤ s
  leaf : ∀ q, q < s → T'.getD (s + q) 0 = wide sz T q
  only : Only (· = b) w w'
  block : w'.heap[b]? = some (.cells ((cs.setIfInBounds o (.int .i64 s)).setIfInBounds (o + 1) (.slice (some ⟨w.heap.size, 0, none⟩) (2 * s) (2 * s))) t (0, 0))
theorem Building.done {s g p : Nat} {T' : List Int} {wr wr2 : World} {cs : Array Value} {t : TypeId} (h : Building B s g sz T w 0 T' wr) (hP : Pow s) (hps : p ≤ s) (hblk : w.heap[b]? = some (.cells cs t (0, 0))) (hb : b < w.heap.size) (ho : o + 1 < cs.size)
    (e : wr2 = (wr.setCell ⟨b, o, none⟩ (.int .i64 s)).setCell ⟨b, o + 1, none⟩ (.slice (some ⟨g, 0, none⟩) (2 * s) (2 * s))) : ∃ k s' T', Grown B b o sz p T cs t w wr2 k s' T' := by
  have hg := h.new
  subst hg
  obtain ⟨k, hk, _⟩ := id hP
  have hle := hP.le
  have ob : Only (· = b) wr wr2 := by
    subst e
    exact (Only.setCell (S := (· = b)) wr (p := ⟨b, o, none⟩) rfl _).same (Only.setCell (S := (· = b)) _ (p := ⟨b, o + 1, none⟩) rfl _)
  have h0 : wr.heap[b]? = some (.cells cs t (0, 0)) := by rw [h.only.block b hb (fun e => e)]; exact hblk
  have h2 : wr2.heap[b]? = some (.cells ((cs.setIfInBounds o (.int .i64 s)).setIfInBounds (o + 1) (.slice (some ⟨w.heap.size, 0, none⟩) (2 * s) (2 * s))) t (0, 0)) := by
    subst e
    exact blk_set (blk_set h0 o _) (o + 1) _
  refine ⟨k, s, T', ⟨?_, ?_, ?_, ⟨?_, ?_⟩, hk, by omega, h.small⟩, hps, h.leaf, (h.only.mono (fun _ _ e => e.elim)).same ob, h2⟩
  · rw [cell_of_blk h2]
    rw [Array.getElem?_setIfInBounds_ne (by omega), Array.getElem?_setIfInBounds_self_of_lt (by omega)]
  · rw [cell_of_blk h2, Array.getElem?_setIfInBounds_self_of_lt (by simp; omega), h.len]
  · refine h.row.only ob ?_
    intro g hg e
    cases hg
    simp only at e
    omega
  · rw [h.len, hk]
  · intro j h1 h3
    exact h.most j (by omega) (by omega)
end Go.Proofs.Ytaplfibhhdngbaa.pools
