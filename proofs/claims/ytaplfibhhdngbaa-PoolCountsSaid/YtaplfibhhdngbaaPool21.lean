/- A segment is opened. -/
import Derived.Test.YtaplfibhhdngbaaPool20
import Derived.Deep.RegionLaw
import Derived.Deep.AppendLies
namespace Go.Proofs.Ytaplfibhhdngbaa.pools
open Go.RowKit Go.Proofs.Ytaplfibhhdngbaa.own Go.Proofs.Ytaplfibhhdngbaa.trees Go.Proofs.Ytaplfibhhdngbaa.rows
variable {Sm S : Nat → Prop} {B b k sz : Nat} {so : Option Addr} {scap : Nat} {ao : Option Addr} {cap : Nat} {T : List Int} {f : Nat → Nat} {lim : Nat} {F : List Bool} {St : List Nat} {w w' : World} {o : Nat}
theorem own_of_none {n c : Nat} : (Value.slice none n c).ownBlock = none := rfl
theorem appended_row {α : Type} {enc : α → List Value} {s E : Nat} {so : Option Addr} {scap n : Nat} {xs : List α} {w W w' : World} {z : α} {g cap' : Nat} (h : RowOf enc s E B so scap xs w) (hn : xs.length = n) (hW : Only (fun _ => False) w W)
    (hown : w'.ownsRow B E s (.slice (some ⟨g, 0, none⟩) (n + 1) cap') (n + 1) (xs.flatMap enc ++ enc z)) (hg : W.grownBy w' (Value.slice so n scap).ownBlock) (hat : (Value.slice so n scap).ownBlock = some g ∨ w.heap.size ≤ g) :
    RowOf enc s E B (some ⟨g, 0, none⟩) cap' (xs ++ [z]) w' ∧ Only (RowAt so) w w' ∧ NewRow w.heap.size so (some ⟨g, 0, none⟩) := by
  subst hn
  refine ⟨?_, ?_, ?_⟩
  · unfold RowOf
    rw [List.length_append, List.length_cons, List.length_nil, List.flatMap_append, List.flatMap_cons, List.flatMap_nil, List.append_nil]
    exact hown
  · refine (hW.no (RowAt so)).trans (Only.grown hg) ?_
    intro j _ hj
    cases so with
    | none => simp [Value.ownBlock] at hj
    | some g0 => exact ⟨g0, rfl, by simpa [Value.ownBlock] using hj⟩
  · intro g1 hg1
    cases hg1
    rcases hat with hat | hat
    · cases so with
      | none => simp [Value.ownBlock] at hat
      | some g0 =>
        have hh := h.head g0 rfl
        simp only [Value.ownBlock, Option.some.injEq] at hat
        left
        rw [hh.1, hat]
    · right
      exact hat
/-- Behind the append of a segment's start. -/
theorem PoolAt.opened (h : PoolAt (· ∈ St) S B b k sz so scap ao cap T f lim F St w) (hfew : St.length < 4096) {so' : Option Addr} {scap' : Nat} {w2 w3 : World} (hr : RowOf enc64 1 3 B so' scap' (St ++ [F.length]) w2) (ho : Only (RowAt so) w w2) (hnew : NewRow w.heap.size so so')
    (e : w3 = w2.setCell ⟨b, 2, none⟩ (.slice so' (St ++ [F.length]).length scap')) : PoolAt (· ∈ St ++ [F.length]) (Grew S w w3) B b k sz so' scap' ao cap T f lim F (St ++ [F.length]) w3 ∧ Only S w w3 := by
  have hbl := h.own b h.inS.1
  have hnb : ¬ RowAt so b := fun ⟨g, hg, e⟩ => h.apart.1 g hg e.symm
  have o2 : Only (· = b) w2 w3 := by subst e; exact Only.setCell (S := (· = b)) w2 (p := ⟨b, 2, none⟩) rfl _
  have hall : Only S w w3 := (ho.mono (fun j _ hj => by obtain ⟨g, hg, rfl⟩ := hj; exact h.inS.2.1 g hg)).same (o2.mono (fun j _ hj => by rw [hj]; exact h.inS.1))
  have hblk : w2.heap[b]? = some (.cells (poolCells lim F so St.length scap sz ao T.length cap) 56 (0, 0)) := by rw [ho.block b hbl.2 hnb]; exact h.blk
  have hso' : ∀ g, so' = some g → g.block ≠ b := by
    intro g hg e2
    rcases hnew g hg with h1 | h1
    · exact h.apart.1 g h1 e2
    · omega
  have hsz : ∀ g, so' = some g → g.block < w3.heap.size := fun g hg => Nat.lt_of_lt_of_le (hr.head g hg).2.2 o2.size
  refine ⟨⟨?_, ?_, ?_, h.tree, h.few, h.small, h.leaf, h.rest, ?_, h.room, h.limit, ?_, ?_, ?_, by simp; omega, ⟨.inl h.inS.1, ?_, fun g hg => .inl (h.inS.2.2 g hg)⟩, ?_, ⟨hso', h.apart.2.1, ?_⟩⟩, hall⟩
  · subst e
    rw [blk_set hblk 2 _]
    rfl
  · exact hr.only o2 (fun g hg e => hso' g hg e)
  · exact (h.most.only ho (fun g hg e => by obtain ⟨g', hg', e'⟩ := e; exact h.apart.2.2 g' g hg' hg e'.symm)).only o2 (fun g hg e => h.apart.2.1 g hg e)
  · refine h.inv.open_ (top := F.length) (fun j hj => ?_) (fun j => by simp)
    show F.getD j false = false
    rw [List.getD_eq_getElem?_getD, List.getElem?_eq_none hj]
    rfl
  · rw [List.getElem?_append_left h.one]
    exact h.first
  · rw [List.pairwise_append]
    exact ⟨h.rising, by simp, fun x hx y hy => by simp at hy; subst hy; exact h.below x hx⟩
  · intro s hs
    simp only [List.mem_append, List.mem_singleton] at hs
    rcases hs with hs | hs
    · exact h.below s hs
    · omega
  · intro g hg
    rcases hnew g hg with h1 | h1
    · exact .inl (h.inS.2.1 g h1)
    · exact .inr ⟨h1, hsz g hg⟩
  · rintro j (hj | hj)
    · have := h.own j hj
      exact ⟨this.1, Nat.lt_of_lt_of_le this.2 hall.size⟩
    · have := hbl.1
      omega
  · intro g g' hg hg' e2
    rcases hnew g hg with h1 | h1
    · exact h.apart.2.2 g g' h1 hg' e2
    · have := (h.own _ (h.inS.2.2 g' hg')).2
      omega
theorem info64 : (Try.prog.info? 3).map (fun i => (i.zero, i.size, i.bytes)) = some (some (.int .i64 0), 1, 8) := by kernel_rfl
theorem info_parts {t : TypeId} {z : Option Value} {s y : Nat} (h : (Try.prog.info? t).map (fun i => (i.zero, i.size, i.bytes)) = some (z, s, y)) : ∃ i, Try.prog.info? t = some i ∧ i.zero = z ∧ i.size = s ∧ i.bytes = y := by
  cases hi : Try.prog.info? t with
  | none => rw [hi] at h; cases h
  | some i =>
    rw [hi] at h
    simp only [Option.map_some, Option.some.injEq, Prod.mk.injEq] at h
    exact ⟨i, rfl, h.1, h.2.1, h.2.2⟩
set_option maxRecDepth 100000 in
theorem open_full (h : PoolAt Sm S B b k sz so scap ao cap T f lim F St w) (hf : ¬ St.length < 4096) :
    Calls Try.prog 15 #[.pointer (some ⟨b, 0, none⟩)] w fun e w' => e = .returned (.int .i64 2) ∧ w = w' := by
  have HC := Lib.hid (closed_no h)
  have c2 := h.c2
  have h2 : 4096 ≤ St.length := by omega
  clear h hf
  go_enter Try.func15, Try.ntmps15
  go_wp2_with fail
  refine HC.out.mono ?_
  rintro e w1 ⟨rfl, rfl⟩
  go_wp2_with fail
  go_ret
  exact ⟨rfl, rfl⟩
set_option maxRecDepth 100000 in
set_option maxHeartbeats 4000000 in
theorem open_any (h : PoolAt (· ∈ St) S B b k sz so scap ao cap T f lim F St w) (hf : St.length < 4096) :
    Calls Try.prog 15 #[.pointer (some ⟨b, 0, none⟩)] w fun e w' => e = .returned (.int .i64 0) ∧ ∃ so' scap', PoolAt (· ∈ St ++ [F.length]) (Grew S w w') B b k sz so' scap' ao cap T f lim F (St ++ [F.length]) w' ∧ Only S w w' := by
  obtain ⟨i0, hi, hz0, hz1, hz2⟩ := info_parts info64
  have HC := Lib.hid (closed_no h)
  have H := Lib.hid h
  have HF := Lib.hid hf
  have c1 := h.c1
  have c2 := h.c2
  have g2 := free_of_blk h.blk 2
  have hB := h.own b h.inS.1
  have hone := h.one
  have hroom := h.room
  have hfew := h.few
  obtain ⟨g0, hg0, _⟩ := h.start 0 0 h.first
  subst hg0
  have hg0b : (⟨g0, 0, none⟩ : Addr).block ≠ b := h.apart.1 _ rfl
  simp only at hg0b
  have hg0l : g0 < w.heap.size := (h.starts.head _ rfl).2.2
  have HOWN : Hid (w.ownsRow B 3 1 (.slice (some ⟨g0, 0, none⟩) St.length scap) St.length (St.flatMap enc64)) := Lib.hid h.starts
  have HR := Lib.hid h.starts
  generalize hn : St.length = n at *
  have HN := Lib.hid hn
  have hn4 : (n : Int) < 4096 := by omega
  have hc0 : ((w.alloc (.cells #[.int .i64 F.length] 3)).drew).cell? ⟨b, 2, none⟩ = some (.slice (some ⟨g0, 0, none⟩) n scap) :=
    (((Only.alloc (fun _ => False) w _).same (Only.drew (fun _ => False) _)).cell (p := ⟨b, 2, none⟩) hB.2 (fun e => e)).trans c2
  have hf0 : ((w.alloc (.cells #[.int .i64 F.length] 3)).drew).frozen? ⟨b, 2, none⟩ = false :=
    (((Only.alloc (fun _ => False) w _).same (Only.drew (fun _ => False) _)).frozen (p := ⟨b, 2, none⟩) hB.2 (fun e => e)).trans g2
  have ab : (Value.slice (some ⟨g0, 0, none⟩) n scap).ownBlock ≠ some b := by
    simp only [Value.ownBlock, ne_eq, Option.some.injEq]; exact hg0b
  clear h hf hn
  go_enter Try.func15, Try.ntmps15
  go_wp2_with fail
  refine HC.out.mono ?_
  rintro e w1 ⟨rfl, rfl⟩
  go_wp2_with fail
  go_region_law
    ((refine step_append_lies _ (by rfl) _ _ _ (by rfl) B 3 i0 _ 1 8 Try.underlying38 hi hz0 hz1 hz2 rfl (by omega) (.slice (some ⟨g0, 0, none⟩) n scap) n (St.flatMap enc64) (by rfl) ((HOWN.out.alloc _).drew)
          ⟨w.heap.size, 0, none⟩ 1 1 [.int .i64 F.length] (by rfl) (by rfl) (World.news_of_block (cs := #[.int .i64 F.length]) (t := 3) (fr := (0, 0)) (heap_alloc_new w _)) (by simp [Value.oneCell'])
          (by omega) (by unfold maxLen; omega) (by omega) (by simp; omega) (w.heap.size + 1) (by simp) ?_; intro gg cap' w5 hown5 hgrow hat hlt5; have hfz : w5.frozen? ⟨b, 2, none⟩ = false := (hgrow.frozen_far ⟨b, 2, none⟩ (by simp; omega) (Ne.symm ab)).trans hf0; have hcb : w5.cell? ⟨b, 2, none⟩ = some (.slice (some ⟨g0, 0, none⟩) n scap) := (hgrow.cell_far ⟨b, 2, none⟩ (by simp; omega) (Ne.symm ab)).trans hc0))
  all_goals
    have HA := Lib.hid (appended_row (W := (w.alloc (.cells #[.int .i64 F.length] 3)).drew) (z := F.length) HR.out HN.out ((Only.alloc (fun _ => False) w _).same (Only.drew (fun _ => False) _)) hown5 hgrow (by
      rcases hat with hat | hat
      · exact .inl hat
      · right; omega))
    have HP := Lib.hid (fun w6 e => H.out.opened (w3 := w6) (by rw [HN.out]; exact HF.out) HA.out.1 HA.out.2.1 HA.out.2.2 e)
    have hl : (St ++ [F.length]).length = n + 1 := by rw [List.length_append, HN.out]; rfl
    rw [hl] at HP
    clear hown5 hgrow hat hfz hcb hl HR HA HOWN c1 c2 g2
    go_wp2_with fail
    go_ret
    exact ⟨rfl, _, _, HP.out _ rfl⟩
end Go.Proofs.Ytaplfibhhdngbaa.pools
