/- A segment is opened, and what follows: 4 texts in one. -/
import Derived.Test.YtaplfibhhdngbaaPool20
import Derived.Deep.RegionLaw
import Derived.Deep.AppendLies
import Derived.Deep.RegionHeld3
/- A segment is opened. -/
namespace Go.Proofs.Ytaplfibhhdngbaa.pools
section
open Go.RowKit Go.Proofs.Ytaplfibhhdngbaa.own Go.Proofs.Ytaplfibhhdngbaa.trees Go.Proofs.Ytaplfibhhdngbaa.rows
variable {Sm S : Nat → Prop} {B b k sz : Nat} {so : Option Addr} {scap : Nat} {ao : Option Addr} {cap : Nat} {T : List Int} {f : Nat → Nat} {lim : Nat} {F : List Bool} {St : List Nat} {w w' : World} {o : Nat}
theorem own_of_none {n c : Nat} : (Value.slice none n c).ownBlock = none := rfl
theorem appended_row {α : Type} {enc : α → List Value} {s E : Nat} {so : Option Addr} {scap n : Nat} {xs : List α} {w W w' : World} {z : α} {g cap' : Nat} (h : RowOf enc s E B so scap xs w) (hn : xs.length = n) (hW : Only (fun _ => False) w W)
    (hown : w'.ownsRow B E s (.slice (some ⟨g, 0, none⟩) (n + 1) cap') (n + 1) (xs.flatMap enc ++ enc z)) (hg : W.grownBy w' (Value.slice so n scap).ownBlock) (hat : (Value.slice so n scap).ownBlock = some g ∨ w.heap.size ≤ g) :
    RowOf enc s E B (some ⟨g, 0, none⟩) cap' (xs ++ [z]) w' ∧ Only (RowAt so) w w' ∧ NewRow w.heap.size so (some ⟨g, 0, none⟩) := by
  subst hn
  refine ⟨?_, ?_, ?_⟩
  · unfold RowOf
    rw [List.length_append, List.length_cons, List.length_nil, List.flatMap_append, List.flatMap_cons, List.flatMap_nil, List.append_nil]
    exact hown
  · refine (hW.no (RowAt so)).trans (Only.grown hg) ?_
    intro j _ hj
    cases so with
    | none => simp [Value.ownBlock] at hj
    | some g0 => exact ⟨g0, rfl, by simpa [Value.ownBlock] using hj⟩
  · intro g1 hg1
    cases hg1
    rcases hat with hat | hat
    · cases so with
      | none => simp [Value.ownBlock] at hat
      | some g0 =>
        have hh := h.head g0 rfl
        simp only [Value.ownBlock, Option.some.injEq] at hat
        left
        rw [hh.1, hat]
    · right
      exact hat
/-- Behind the append of a segment's start. -/
theorem PoolAt.opened (h : PoolAt (· ∈ St) S B b k sz so scap ao cap T f lim F St w) (hfew : St.length < 4096) {so' : Option Addr} {scap' : Nat} {w2 w3 : World} (hr : RowOf enc64 1 3 B so' scap' (St ++ [F.length]) w2) (ho : Only (RowAt so) w w2) (hnew : NewRow w.heap.size so so')
    (e : w3 = w2.setCell ⟨b, 2, none⟩ (.slice so' (St ++ [F.length]).length scap')) : PoolAt (· ∈ St ++ [F.length]) (Grew S w w3) B b k sz so' scap' ao cap T f lim F (St ++ [F.length]) w3 ∧ Only S w w3 := by
  have hbl := h.own b h.inS.1
  have hnb : ¬ RowAt so b := fun ⟨g, hg, e⟩ => h.apart.1 g hg e.symm
  have o2 : Only (· = b) w2 w3 := by subst e; exact Only.setCell (S := (· = b)) w2 (p := ⟨b, 2, none⟩) rfl _
  have hall : Only S w w3 := (ho.mono (fun j _ hj => by obtain ⟨g, hg, rfl⟩ := hj; exact h.inS.2.1 g hg)).same (o2.mono (fun j _ hj => by rw [hj]; exact h.inS.1))
  have hblk : w2.heap[b]? = some (.cells (poolCells lim F so St.length scap sz ao T.length cap) 56 (0, 0)) := by rw [ho.block b hbl.2 hnb]; exact h.blk
  have hso' : ∀ g, so' = some g → g.block ≠ b := by
    intro g hg e2
    rcases hnew g hg with h1 | h1
    · exact h.apart.1 g h1 e2
    · omega
  have hsz : ∀ g, so' = some g → g.block < w3.heap.size := fun g hg => Nat.lt_of_lt_of_le (hr.head g hg).2.2 o2.size
  refine ⟨⟨?_, ?_, ?_, h.tree, h.few, h.small, h.leaf, h.rest, ?_, h.room, h.limit, ?_, ?_, ?_, by simp; omega, ⟨.inl h.inS.1, ?_, fun g hg => .inl (h.inS.2.2 g hg)⟩, ?_, ⟨hso', h.apart.2.1, ?_⟩⟩, hall⟩
  · subst e
    rw [blk_set hblk 2 _]
    rfl
  · exact hr.only o2 (fun g hg e => hso' g hg e)
  · exact (h.most.only ho (fun g hg e => by obtain ⟨g', hg', e'⟩ := e; exact h.apart.2.2 g' g hg' hg e'.symm)).only o2 (fun g hg e => h.apart.2.1 g hg e)
  · refine h.inv.open_ (top := F.length) (fun j hj => ?_) (fun j => by simp)
    show F.getD j false = false
    rw [List.getD_eq_getElem?_getD, List.getElem?_eq_none hj]
    rfl
  · rw [List.getElem?_append_left h.one]
    exact h.first
  · rw [List.pairwise_append]
    exact ⟨h.rising, by simp, fun x hx y hy => by simp at hy; subst hy; exact h.below x hx⟩
  · intro s hs
    simp only [List.mem_append, List.mem_singleton] at hs
    rcases hs with hs | hs
    · exact h.below s hs
    · omega
  · intro g hg
    rcases hnew g hg with h1 | h1
    · exact .inl (h.inS.2.1 g h1)
    · exact .inr ⟨h1, hsz g hg⟩
  · rintro j (hj | hj)
    · have := h.own j hj
      exact ⟨this.1, Nat.lt_of_lt_of_le this.2 hall.size⟩
    · have := hbl.1
      omega
  · intro g g' hg hg' e2
    rcases hnew g hg with h1 | h1
    · exact h.apart.2.2 g g' h1 hg' e2
    · have := (h.own _ (h.inS.2.2 g' hg')).2
      omega
theorem info64 : (Try.prog.info? 3).map (fun i => (i.zero, i.size, i.bytes)) = some (some (.int .i64 0), 1, 8) := by kernel_rfl
theorem info_parts {t : TypeId} {z : Option Value} {s y : Nat} (h : (Try.prog.info? t).map (fun i => (i.zero, i.size, i.bytes)) = some (z, s, y)) : ∃ i, Try.prog.info? t = some i ∧ i.zero = z ∧ i.size = s ∧ i.bytes = y := by
  cases hi : Try.prog.info? t with
  | none => rw [hi] at h; cases h
  | some i =>
    rw [hi] at h
    simp only [Option.map_some, Option.some.injEq, Prod.mk.injEq] at h
    exact ⟨i, rfl, h.1, h.2.1, h.2.2⟩
set_option maxRecDepth 100000 in
theorem open_full (h : PoolAt Sm S B b k sz so scap ao cap T f lim F St w) (hf : ¬ St.length < 4096) :
    Calls Try.prog 15 #[.pointer (some ⟨b, 0, none⟩)] w fun e w' => e = .returned (.int .i64 2) ∧ w = w' := by
  have HC := Lib.hid (closed_no h)
  have c2 := h.c2
  have h2 : 4096 ≤ St.length := by omega
  clear h hf
  go_enter Try.func15, Try.ntmps15
  go_wp2_with fail
  refine HC.out.mono ?_
  rintro e w1 ⟨rfl, rfl⟩
  go_wp2_with fail
  go_ret
  exact ⟨rfl, rfl⟩
set_option maxRecDepth 100000 in
set_option maxHeartbeats 4000000 in
theorem open_any (h : PoolAt (· ∈ St) S B b k sz so scap ao cap T f lim F St w) (hf : St.length < 4096) :
    Calls Try.prog 15 #[.pointer (some ⟨b, 0, none⟩)] w fun e w' => e = .returned (.int .i64 0) ∧ ∃ so' scap', PoolAt (· ∈ St ++ [F.length]) (Grew S w w') B b k sz so' scap' ao cap T f lim F (St ++ [F.length]) w' ∧ Only S w w' := by
  obtain ⟨i0, hi, hz0, hz1, hz2⟩ := info_parts info64
  have HC := Lib.hid (closed_no h)
  have H := Lib.hid h
  have HF := Lib.hid hf
  have c1 := h.c1
  have c2 := h.c2
  have g2 := free_of_blk h.blk 2
  have hB := h.own b h.inS.1
  have hone := h.one
  have hroom := h.room
  have hfew := h.few
  obtain ⟨g0, hg0, _⟩ := h.start 0 0 h.first
  subst hg0
  have hg0b : (⟨g0, 0, none⟩ : Addr).block ≠ b := h.apart.1 _ rfl
  simp only at hg0b
  have hg0l : g0 < w.heap.size := (h.starts.head _ rfl).2.2
  have HOWN : Hid (w.ownsRow B 3 1 (.slice (some ⟨g0, 0, none⟩) St.length scap) St.length (St.flatMap enc64)) := Lib.hid h.starts
  have HR := Lib.hid h.starts
  generalize hn : St.length = n at *
  have HN := Lib.hid hn
  have hn4 : (n : Int) < 4096 := by omega
  have hc0 : ((w.alloc (.cells #[.int .i64 F.length] 3)).drew).cell? ⟨b, 2, none⟩ = some (.slice (some ⟨g0, 0, none⟩) n scap) :=
    (((Only.alloc (fun _ => False) w _).same (Only.drew (fun _ => False) _)).cell (p := ⟨b, 2, none⟩) hB.2 (fun e => e)).trans c2
  have hf0 : ((w.alloc (.cells #[.int .i64 F.length] 3)).drew).frozen? ⟨b, 2, none⟩ = false :=
    (((Only.alloc (fun _ => False) w _).same (Only.drew (fun _ => False) _)).frozen (p := ⟨b, 2, none⟩) hB.2 (fun e => e)).trans g2
  have ab : (Value.slice (some ⟨g0, 0, none⟩) n scap).ownBlock ≠ some b := by
    simp only [Value.ownBlock, ne_eq, Option.some.injEq]; exact hg0b
  clear h hf hn
  go_enter Try.func15, Try.ntmps15
  go_wp2_with fail
  refine HC.out.mono ?_
  rintro e w1 ⟨rfl, rfl⟩
  go_wp2_with fail
  go_region_law
    ((refine step_append_lies _ (by rfl) _ _ _ (by rfl) B 3 i0 _ 1 8 Try.underlying38 hi hz0 hz1 hz2 rfl (by omega) (.slice (some ⟨g0, 0, none⟩) n scap) n (St.flatMap enc64) (by rfl) ((HOWN.out.alloc _).drew)
          ⟨w.heap.size, 0, none⟩ 1 1 [.int .i64 F.length] (by rfl) (by rfl) (World.news_of_block (cs := #[.int .i64 F.length]) (t := 3) (fr := (0, 0)) (heap_alloc_new w _)) (by simp [Value.oneCell'])
          (by omega) (by unfold maxLen; omega) (by omega) (by simp; omega) (w.heap.size + 1) (by simp) ?_; intro gg cap' w5 hown5 hgrow hat hlt5; have hfz : w5.frozen? ⟨b, 2, none⟩ = false := (hgrow.frozen_far ⟨b, 2, none⟩ (by simp; omega) (Ne.symm ab)).trans hf0; have hcb : w5.cell? ⟨b, 2, none⟩ = some (.slice (some ⟨g0, 0, none⟩) n scap) := (hgrow.cell_far ⟨b, 2, none⟩ (by simp; omega) (Ne.symm ab)).trans hc0))
  all_goals
    have HA := Lib.hid (appended_row (W := (w.alloc (.cells #[.int .i64 F.length] 3)).drew) (z := F.length) HR.out HN.out ((Only.alloc (fun _ => False) w _).same (Only.drew (fun _ => False) _)) hown5 hgrow (by
      rcases hat with hat | hat
      · exact .inl hat
      · right; omega))
    have HP := Lib.hid (fun w6 e => H.out.opened (w3 := w6) (by rw [HN.out]; exact HF.out) HA.out.1 HA.out.2.1 HA.out.2.2 e)
    have hl : (St ++ [F.length]).length = n + 1 := by rw [List.length_append, HN.out]; rfl
    rw [hl] at HP
    clear hown5 hgrow hat hfz hcb hl HR HA HOWN c1 c2 g2
    go_wp2_with fail
    go_ret
    exact ⟨rfl, _, _, HP.out _ rfl⟩
end
end Go.Proofs.Ytaplfibhhdngbaa.pools
/- The last segment is closed. -/
namespace Go.Proofs.Ytaplfibhhdngbaa.pools
section
open Go.RowKit Go.Proofs.Ytaplfibhhdngbaa.own Go.Proofs.Ytaplfibhhdngbaa.trees Go.Proofs.Ytaplfibhhdngbaa.rows
variable {Sm S : Nat → Prop} {B b k sz : Nat} {so : Option Addr} {scap : Nat} {ao : Option Addr} {cap : Nat} {T : List Int} {f : Nat → Nat} {lim : Nat} {F : List Bool} {St : List Nat} {w w' : World} {o : Nat}
theorem PoolAt.reseam {Sm' : Nat → Prop} (h : PoolAt Sm S B b k sz so scap ao cap T f lim F St w) (hi : Inv (fun j => F.getD j false) Sm' f) : PoolAt Sm' S B b k sz so scap ao cap T f lim F St w :=
  ⟨h.blk, h.starts, h.most, h.tree, h.few, h.small, h.leaf, h.rest, hi, h.room, h.limit, h.first, h.rising, h.below, h.segs, h.inS, h.own, h.apart⟩
/-- The tree alone has turned. -/
theorem PoolAt.relaid {Sm' : Nat → Prop} (h : PoolAt Sm S B b k sz so scap ao cap T f lim F St w) {T' : List Int} {f' : Nat → Nat} {w1 : World} (hs : 0 < sz) (hr : RunsF B b 3 k sz ao cap f' T' w1) (ho : Only (RowAt ao) w w1)
    (hinv : Inv (fun j => F.getD j false) Sm' f') : PoolAt Sm' S B b k sz so scap ao cap T' f' lim F St w1 ∧ Only S w w1 := by
  have hnb : ¬ RowAt ao b := fun ⟨g, hg, e⟩ => h.apart.2.1 g hg e.symm
  have hTl : T'.length = T.length := by
    rw [hr.runs.len]
    exact (h.runs hs).len.symm
  have hall : Only S w w1 := ho.mono (fun j _ hj => by obtain ⟨g, hg, rfl⟩ := hj; exact h.inS.2.2 g hg)
  refine ⟨⟨?_, ?_, hr.runs.row, .inr ⟨hr.runs.tree, hr.runs.size⟩, h.few, hr.runs.small, hr.leaf, hr.rest, hinv, h.room, h.limit, h.first, h.rising, h.below, h.segs, h.inS, fun j hj => ?_, h.apart⟩, hall⟩
  · rw [ho.block b (h.own b h.inS.1).2 hnb, hTl]
    exact h.blk
  · exact h.starts.only ho (fun g hg e => by obtain ⟨g', hg', e'⟩ := e; exact h.apart.2.2 g g' hg hg' e')
  · have := h.own j hj
    exact ⟨this.1, Nat.lt_of_lt_of_le this.2 hall.size⟩
/-- The starts are fewer by one. -/
theorem PoolAt.fewer (h : PoolAt Sm S B b k sz so scap ao cap T f lim F St w) {m : Nat} {w1 : World} (hm : St.length = m + 1) (h1 : 1 ≤ m) (e : w1 = w.setCell ⟨b, 2, none⟩ (.slice so m scap)) :
    PoolAt Sm S B b k sz so scap ao cap T f lim F (St.take m) w1 ∧ Only S w w1 := by
  have hbl := h.own b h.inS.1
  have o2 : Only (· = b) w w1 := by subst e; exact Only.setCell (S := (· = b)) w (p := ⟨b, 2, none⟩) rfl _
  have hall : Only S w w1 := o2.mono (fun j _ hj => by rw [hj]; exact h.inS.1)
  have hl : (St.take m).length = m := by rw [List.length_take]; omega
  refine ⟨⟨?_, (h.starts.take lies64 m (by omega)).only o2 (fun g hg e => h.apart.1 g hg e), h.most.only o2 (fun g hg e => h.apart.2.1 g hg e), h.tree, h.few, h.small, h.leaf, h.rest, h.inv, h.room, h.limit, ?_, h.rising.sublist (List.take_sublist _ _), fun s hs => h.below s (List.mem_of_mem_take hs), by have := h.segs; omega, h.inS, fun j hj => ?_, h.apart⟩, hall⟩
  · subst e
    rw [blk_set h.blk 2 _, hl]
    rfl
  · rw [List.getElem?_take_of_lt (by omega)]
    exact h.first
  · have := h.own j hj
    exact ⟨this.1, Nat.lt_of_lt_of_le this.2 hall.size⟩
theorem take_getD {m t : Nat} (ht : t < m) : (St.take m).getD t 0 = St.getD t 0 := by
  simp only [List.getD_eq_getElem?_getD]
  rw [List.getElem?_take_of_lt ht]
/-- The last of the starts that are left, and what is at the seam that goes. -/
theorem closing_seg {m : Nat} (hm : St.length = m + 1) (h1 : 1 ≤ m) (hr : St.Pairwise (· ≤ ·)) : Seg (St.take m) (St.getD m 0) (m - 1) ∧ endOf (St.take m) F (m - 1) = F.length ∧ (∀ j, j ∈ St.take m → j ∈ St) ∧ (∀ j, j ∈ St → j ∉ St.take m → j = St.getD m 0) ∧
    (∀ j, j ∈ St.take m → j ≤ (St.take m).getD (m - 1) 0) ∧ (St.take m).getD (m - 1) 0 ∈ St.take m ∧ (St.take m).getD (m - 1) 0 ≤ St.getD m 0 := by
  have hl : (St.take m).length = m := by rw [List.length_take]; omega
  have hle : (St.take m).getD (m - 1) 0 ≤ St.getD m 0 := by
    rw [take_getD (by omega)]
    exact getD_le hr (by omega) (by omega)
  refine ⟨⟨by omega, hle, fun t g1 g2 => by omega⟩, ?_, fun j hj => List.mem_of_mem_take hj, fun j hj hn => ?_, fun j hj => ?_, getD_mem (by omega), hle⟩
  · unfold endOf
    rw [if_neg (by omega)]
  · obtain ⟨t, ht, rfl⟩ := mem_getD hj
    rcases Nat.lt_or_ge t m with hlt | hge
    · exfalso
      apply hn
      rw [← take_getD hlt]
      exact getD_mem (by omega)
    · rw [show t = m by omega]
  · obtain ⟨t, ht, rfl⟩ := mem_getD hj
    exact getD_le (hr.sublist (List.take_sublist _ _)) (by omega) (by omega)
theorem PoolAt.closing (h : PoolAt (· ∈ St) S B b k sz so scap ao cap T f lim F St w) {m r : Nat} (hm : St.length = m + 1) (h1 : 1 ≤ m) (hp : 0 < f (St.getD m 0)) (hr : LayR f ((St.take m).getD (m - 1) 0) (St.getD m 0) r) :
    Inv (fun j => F.getD j false) (· ∈ St.take m) (laid f (decide (F.length ≤ St.getD m 0 + f (St.getD m 0))) r (St.getD m 0) (f (St.getD m 0))) := by
  obtain ⟨hs, _, hsub, hd, hmax, hst, hle⟩ := closing_seg (F := F) hm h1 h.rising
  have hin : St.getD m 0 ∈ St := getD_mem (by omega)
  have h0 : (0 : Nat) ∈ St.take m := List.mem_of_getElem? (i := 0) (by rw [List.getElem?_take_of_lt (by omega)]; exact h.first)
  have hl := Inv.close (seam' := (· ∈ St.take m)) (r := r) (sm := decide (St.getD m 0 + f (St.getD m 0) ∈ St.take m)) h.inv hin hsub hd h0 hp (by simp) (by
    rcases hr with ⟨e, hz⟩ | ⟨g1, g2, g3⟩
    · refine .inl ⟨e, ?_⟩
      by_cases hmem : St.getD m 0 ∈ St.take m
      · exact .inl hmem
      · right
        have hlt : (St.take m).getD (m - 1) 0 < St.getD m 0 := by
          rcases Nat.lt_or_ge ((St.take m).getD (m - 1) 0) (St.getD m 0) with g | g
          · exact g
          · exfalso
            apply hmem
            rw [show St.getD m 0 = (St.take m).getD (m - 1) 0 by omega]
            exact hst
        refine ⟨by omega, ?_⟩
        cases hf : F.getD (St.getD m 0 - 1) false with
        | false => rfl
        | true =>
          exfalso
          obtain ⟨q, hq1, hq2⟩ := h.inv.all (St.getD m 0 - 1) hf
          have hqs : (St.take m).getD (m - 1) 0 ≤ q := by
            rcases Nat.lt_or_ge q ((St.take m).getD (m - 1) 0) with g | g
            · have := h.inv.stops (hsub _ hst) g
              omega
            · exact g
          have := hz q hqs (by omega)
          have := h.inv.stops hin (show q < St.getD m 0 by omega)
          omega
    · refine .inr ⟨g2, g3, fun hmem => ?_⟩
      have := hmax _ hmem
      omega)
  rw [laid_same (sm' := decide (F.length ≤ St.getD m 0 + f (St.getD m 0))) (fun hne => ?_)] at hl
  · exact hl
  · have e1 : decide (St.getD m 0 + f (St.getD m 0) ∈ St.take m) = false := by
      refine decide_eq_false (fun hmem => ?_)
      have := hmax _ hmem
      omega
    rw [e1] at hne
    have e2 : F.length ≤ St.getD m 0 + f (St.getD m 0) := by
      have : decide (F.length ≤ St.getD m 0 + f (St.getD m 0)) = true := by
        cases hh : decide (F.length ≤ St.getD m 0 + f (St.getD m 0)) with
        | true => rfl
        | false => rw [hh] at hne; exact absurd rfl hne
      exact of_decide_eq_true this
    rcases Nat.eq_zero_or_pos (f (St.getD m 0 + f (St.getD m 0))) with e0 | e0
    · exact e0
    · have := h.run_le _ e0
      omega
theorem PoolAt.closing_none (h : PoolAt (· ∈ St) S B b k sz so scap ao cap T f lim F St w) {m : Nat} (hm : St.length = m + 1) (h1 : 1 ≤ m) (hp : f (St.getD m 0) = 0) : Inv (fun j => F.getD j false) (· ∈ St.take m) f := by
  obtain ⟨hs, _, hsub, hd, _⟩ := closing_seg (F := F) hm h1 h.rising
  exact Inv.close_none (seam' := (· ∈ St.take m)) h.inv (getD_mem (by omega)) hsub hd hp
set_option maxRecDepth 100000 in
theorem close_one (h : PoolAt Sm S B b k sz so scap ao cap T f lim F St w) (hf : St.length = 1) :
    Calls Try.prog 16 #[.pointer (some ⟨b, 0, none⟩)] w fun e w' => e = .returned (.int .i64 4) ∧ w = w' := by
  have HC := Lib.hid (closed_no h)
  have HL := last_seg h
  rw [hf] at HL
  have HL := Lib.hid HL
  clear h hf
  go_enter Try.func16, Try.ntmps16
  go_wp2_with fail
  refine HC.out.mono ?_
  rintro e w1 ⟨rfl, rfl⟩
  go_wp2_with fail
  refine HL.out.mono ?_
  rintro e w1 ⟨rfl, rfl⟩
  go_wp2_with fail
  go_ret
  exact ⟨rfl, rfl⟩
set_option maxRecDepth 100000 in
set_option maxHeartbeats 4000000 in
theorem close_any (m : Nat) (h : PoolAt (· ∈ St) S B b k sz so scap ao cap T f lim F St w) (hm : St.length = m + 1) (h1 : 1 ≤ m) :
    Calls Try.prog 16 #[.pointer (some ⟨b, 0, none⟩)] w fun e w' => e = .returned (.int .i64 0) ∧ ∃ T' f', PoolAt (· ∈ St.take m) S B b k sz so scap ao cap T' f' lim F (St.take m) w' ∧ Only S w w' := by
  have HC := Lib.hid (closed_no h)
  have HL := last_seg h
  rw [show St.length - 1 = m by omega] at HL
  have HL := Lib.hid HL
  have H := Lib.hid h
  have hB := h.own b h.inS.1
  have hroom := h.room
  have hfew := h.few
  have hsg := h.segs
  have c1 := h.c1
  have c2 := h.c2
  have g2 := free_of_blk h.blk 2
  have hcap := h.starts.cap_ge
  unfold maxLen at hcap
  obtain ⟨g, hg, _⟩ := h.start 0 0 h.first
  subst hg
  have ds := start_cell h.starts m (by omega)
  have hbelow := h.below _ (getD_mem (show m < St.length by omega))
  have HP := Lib.hid (fun w1 e => h.fewer (w1 := w1) hm h1 e)
  have HCl := Lib.hid (fun r hp hr => h.closing (r := r) hm h1 hp hr)
  have HCn := Lib.hid (fun hp => h.closing_none hm h1 hp)
  have HSeg := Lib.hid (closing_seg (F := F) hm h1 h.rising)
  have HRun := Lib.hid (fun q hq => h.run_le q hq)
  have HM := Lib.hid hm
  rw [hm] at c2 hcap
  generalize hs : St.getD m 0 = s at *
  have hm0 : ((m : Int) == 0) = false := by simp; omega
  have HP0 := Lib.hid (HP.out _ rfl)
  have HPN : Hid (f s = 0 → PoolAt (· ∈ St.take m) S B b k sz (some ⟨g, 0, none⟩) scap ao cap T f lim F (St.take m) (w.setCell ⟨b, 2, none⟩ (.slice (some ⟨g, 0, none⟩) m scap))) := Lib.hid (fun e => HP0.out.1.reseam (HCn.out e))
  clear h hm hs h1 HP
  by_cases hlt : s < F.length
  · have hsz : 0 < sz := by omega
    have HR := Lib.hid (HP0.out.1.runsF hsz)
    go_enter Try.func16, Try.ntmps16
    go_wp2_with fail
    refine HC.out.mono ?_
    rintro e w1 ⟨rfl, rfl⟩
    go_wp2_with fail
    refine HL.out.mono ?_
    rintro e w1 ⟨rfl, rfl⟩
    go_wp2_with fail
    refine (at_f s (by omega) HR.out).mono ?_
    rintro e w2 ⟨rfl, ho⟩
    rcases Nat.eq_zero_or_pos (f s) with e0 | e0
    · have HF := Lib.hid (HPN.out e0)
      rw [e0]
      go_wp2_with fail
      go_ret
      exact ⟨rfl, T, f, HF.out.only ho, HP0.out.2.same (ho.no _)⟩
    · have HO : Hid (Only S w w2) := Lib.hid (HP0.out.2.same (ho.no _))
      have H2 := Lib.hid (HP0.out.1.only ho)
      have HR2 := Lib.hid (HR.out.only0 ho)
      have hbd := HRun.out s e0
      have HE := Lib.hid e0
      clear ho
      have hcut : (0 : Int) < (f s : Int) := by omega
      generalize hn : f s = n at *
      have HN := Lib.hid hn
      clear hn e0
      go_wp2_with fail
      refine (at_f s (by omega) HR2.out).mono ?_
      rintro e w3 ⟨rfl, ho⟩
      rw [HN.out]
      have HO3 : Hid (Only S w w3) := Lib.hid (HO.out.same (ho.no _))
      have H3 := Lib.hid (H2.out.only ho)
      clear ho H2 HO HR2
      go_wp2_with fail
      refine (lay_any s n (m - 1) HE.out H3.out HSeg.out.1 (by rw [HSeg.out.2.1]; exact hbd)).mono ?_
      rintro e w4 ⟨rfl, r, T4, hL, hr, ho⟩
      have hI := HCl.out r HE.out hL
      rw [HSeg.out.2.1] at hr
      have HF := Lib.hid (H3.out.relaid hsz hr ho hI)
      clear hL hr ho hI
      go_wp2_with fail
      go_ret
      exact ⟨rfl, _, _, HF.out.1, HO3.out.same HF.out.2⟩
  · have hle : ¬ ((s : Int) < (F.length : Int)) := by omega
    have HF := Lib.hid (HPN.out (by
      rcases Nat.eq_zero_or_pos (f s) with e | e
      · exact e
      · have := HRun.out s e
        omega))
    go_enter Try.func16, Try.ntmps16
    go_wp2_with fail
    refine HC.out.mono ?_
    rintro e w1 ⟨rfl, rfl⟩
    go_wp2_with fail
    refine HL.out.mono ?_
    rintro e w1 ⟨rfl, rfl⟩
    go_wp2_with fail
    go_ret
    exact ⟨rfl, T, f, HF.out, HP0.out.2⟩
end
end Go.Proofs.Ytaplfibhhdngbaa.pools
/- The last segment's cells are taken away. -/
namespace Go.Proofs.Ytaplfibhhdngbaa.pools
section
open Go.RowKit Go.Proofs.Ytaplfibhhdngbaa.own Go.Proofs.Ytaplfibhhdngbaa.trees Go.Proofs.Ytaplfibhhdngbaa.rows
variable {Sm S : Nat → Prop} {B b k sz : Nat} {so : Option Addr} {scap : Nat} {ao : Option Addr} {cap : Nat} {T : List Int} {f : Nat → Nat} {lim : Nat} {F : List Bool} {St : List Nat} {w w' : World} {o : Nat}
/-- The first row, of whatever tree. -/
theorem first_p (a n : Nat) (h : PoolAt Sm S B b k sz so scap ao cap T f lim F St w) (hn : 1 ≤ n) (hn1 : n ≤ 9223372036854775807) :
    Calls Try.prog 38 #[.pointer (some ⟨b, 3, none⟩), .int .i64 a, .int .i64 n] w fun e w' => (∃ r, e = .returned (.int .i64 r) ∧ FirstF f a n r) ∧ w = w' := by
  rcases Nat.eq_zero_or_pos sz with e | e
  · refine (first_out a n h.c3 (by omega)).mono ?_
    rintro e2 w' ⟨rfl, rfl⟩
    exact ⟨⟨-1, rfl, .inl ⟨rfl, fun q _ => by rw [h.rest q (by omega)]; omega⟩⟩, rfl⟩
  · exact first_f a n (h.runsF e) hn hn1
theorem count_take {s : Nat} (h : ∀ j, s ≤ j → F.getD j false = false) : count (F.take s) = count F := by
  unfold count
  conv => rhs; rw [← List.take_append_drop s F]
  rw [List.filter_append, List.length_append]
  have : (F.drop s).filter id = [] := by
    rw [List.filter_eq_nil_iff]
    intro x hx
    obtain ⟨i, hi, e⟩ := List.mem_iff_getElem.1 hx
    rw [List.length_drop] at hi
    rw [List.getElem_drop] at e
    have := h (s + i) (by omega)
    rw [List.getD_eq_getElem?_getD, List.getElem?_eq_getElem (by omega)] at this
    simp only [Option.getD_some] at this
    rw [← e, this]
    decide
  rw [this]
  rfl
/-- The last segment's rows are taken away one by one: the next one is at r. -/
structure BackI (S : Nat → Prop) (B b k sz : Nat) (so : Option Addr) (scap : Nat) (ao : Option Addr) (cap lim : Nat) (F : List Bool) (St : List Nat) (s : Nat) (w : World) (r : Int) (T : List Int) (f : Nat → Nat) (F' : List Bool) (wr : World) : Prop where
  pool : PoolAt (· ∈ St) S B b k sz so scap ao cap T f lim F' St wr
  only : Only S w wr
  len : F'.length = F.length
  low : ∀ j, j < s → F'.getD j false = F.getD j false
  first : FirstF f s 1 r
/-- A pool behind the store of how many are loose, and one call of set. -/
theorem PoolAt.loosed (h : PoolAt Sm S B b k sz so scap ao cap T f lim F St w) {T' : List Int} {f' : Nat → Nat} {F' : List Bool} {w1 w2 : World} (hs : 0 < sz) (e : w1 = w.setCell ⟨b, 5, none⟩ (.int .i64 (count F'))) (hr : RunsF B b 3 k sz ao cap f' T' w2) (ho : Only (RowAt ao) w1 w2)
    (hinv : Inv (fun j => F'.getD j false) Sm f') (hlen : F'.length = F.length) : PoolAt Sm S B b k sz so scap ao cap T' f' lim F' St w2 ∧ Only S w w2 := by
  have hnb : ¬ RowAt ao b := fun ⟨g, hg, e⟩ => h.apart.2.1 g hg e.symm
  have hTl : T'.length = T.length := by
    rw [hr.runs.len]
    exact (h.runs hs).len.symm
  have hbl := h.own b h.inS.1
  have o1 : Only (· = b) w w1 := by subst e; exact Only.setCell (S := (· = b)) w (p := ⟨b, 5, none⟩) rfl _
  have hall : Only S w w2 := (o1.mono (fun j _ hj => by rw [hj]; exact h.inS.1)).same (ho.mono (fun j _ hj => by obtain ⟨g, hg, rfl⟩ := hj; exact h.inS.2.2 g hg))
  refine ⟨⟨?_, ?_, hr.runs.row, .inr ⟨hr.runs.tree, hr.runs.size⟩, h.few, hr.runs.small, hr.leaf, hr.rest, hinv, by rw [hlen]; exact h.room, by rw [hlen]; exact h.limit, h.first, h.rising, by rw [hlen]; exact h.below, h.segs, h.inS, fun j hj => ?_, h.apart⟩, hall⟩
  · rw [ho.block b (by have := o1.size; omega) hnb]
    subst e
    rw [blk_set h.blk 5 _]
    unfold poolCells
    rw [hlen, hTl]
    rfl
  · exact (h.starts.only o1 (fun g hg e => h.apart.1 g hg e)).only ho (fun g hg e => by obtain ⟨g', hg', e'⟩ := e; exact h.apart.2.2 g g' hg hg' e')
  · have := h.own j hj
    exact ⟨this.1, Nat.lt_of_lt_of_le this.2 hall.size⟩
/-- The tree's calls at the pool whose number of loose cells has turned. -/
theorem PoolAt.runsF5 (h : PoolAt Sm S B b k sz so scap ao cap T f lim F St w) (hs : 0 < sz) {w1 : World} {v : Value} (e : w1 = w.setCell ⟨b, 5, none⟩ v) : RunsF B b 3 k sz ao cap f T w1 := by
  have o1 : Only (· = b) w w1 := by subst e; exact Only.setCell (S := (· = b)) w (p := ⟨b, 5, none⟩) rfl _
  have hb1 : w1.heap[b]? = some (.cells ((poolCells lim F so St.length scap sz ao T.length cap).setIfInBounds 5 v) 56 (0, 0)) := by subst e; exact blk_set h.blk 5 _
  have hr := h.runsF hs
  refine ⟨⟨?_, ?_, h.most.only o1 (fun g hg e => h.apart.2.1 g hg e), hr.runs.tree, hr.runs.size, hr.runs.few, hr.runs.small⟩, h.leaf, h.rest⟩
  · rw [cell_of_blk hb1]; rfl
  · rw [cell_of_blk hb1]; rfl
theorem PoolAt.drop (h : PoolAt (· ∈ St) S B b k sz so scap ao cap T f lim F St w) {s p : Nat} (hp1 : s ≤ p) (hp2 : 1 ≤ f p) (hs : ∀ q, s ≤ q → q < p → f q < 1) {r : Int} (hr : FirstF (fun q => if q = p then 0 else f q) p 1 r) : FirstF (fun q => if q = p then 0 else f q) s 1 r := by
  rcases hr with ⟨rfl, hz⟩ | ⟨q', rfl, g1, g2, g3⟩
  · refine .inl ⟨rfl, fun q hq => ?_⟩
    rcases Nat.lt_or_ge q p with hl | hg
    · show (if q = p then 0 else f q) < 1; rw [if_neg (by omega)]; exact hs q hq hl
    · exact hz q hg
  · refine .inr ⟨q', rfl, by omega, g2, fun q hq hq2 => ?_⟩
    rcases Nat.lt_or_ge q p with hl | hg
    · show (if q = p then 0 else f q) < 1; rw [if_neg (by omega)]; exact hs q hq hl
    · exact g3 q hg hq2
theorem cut_whole (f : Nat → Nat) (p : Nat) : cut f p (f p) = fun q => if q = p then 0 else f q := by
  funext q
  unfold cut
  by_cases e : q = p
  · rw [if_pos e, if_pos e]
  · rw [if_neg e, if_neg e, if_neg (by omega)]
/-- Behind Back. -/
theorem PoolAt.backed {s : Nat} (h : PoolAt (· ∈ St) S B b k sz so scap ao cap T f lim F St w) (hs : s = lastOf St) {w1 : World} (hz : ∀ q, s ≤ q → f q < 1) (e : w1 = w.setCell ⟨b, 1, none⟩ (.int .i64 s)) :
    PoolAt (· ∈ St) S B b k sz so scap ao cap T f lim (F.take s) St w1 ∧ Only S w w1 := by
  have hone := h.one
  have hsm : s ∈ St := by rw [hs]; exact getD_mem (by omega)
  have hsl := h.below s hsm
  have hlen : (F.take s).length = s := by rw [List.length_take]; omega
  have o2 : Only (· = b) w w1 := by subst e; exact Only.setCell (S := (· = b)) w (p := ⟨b, 1, none⟩) rfl _
  have hall : Only S w w1 := o2.mono (fun j _ hj => by rw [hj]; exact h.inS.1)
  have hfr : ∀ j, s ≤ j → F.getD j false = false := by
    intro j hj
    cases hf : F.getD j false with
    | false => rfl
    | true =>
      exfalso
      obtain ⟨q, hq1, hq2⟩ := h.inv.all j hf
      rcases Nat.lt_or_ge q s with hl | hg
      · have := h.inv.stops hsm hl
        omega
      · have := hz q hg
        omega
  have hget : ∀ j, (F.take s).getD j false = if s ≤ j then false else F.getD j false := by
    intro j
    simp only [List.getD_eq_getElem?_getD]
    by_cases g : s ≤ j
    · rw [if_pos g, List.getElem?_eq_none (by omega)]; rfl
    · rw [if_neg g, List.getElem?_take_of_lt (by omega)]
  refine ⟨⟨?_, h.starts.only o2 (fun g hg e => h.apart.1 g hg e), h.most.only o2 (fun g hg e => h.apart.2.1 g hg e), h.tree, h.few, h.small, h.leaf, h.rest, ?_, by have := h.room; omega, ⟨by have := h.limit.1; omega, h.limit.2⟩, h.first, h.rising, fun t ht => ?_, h.segs, h.inS, fun j hj => ?_, h.apart⟩, hall⟩
  · subst e
    rw [blk_set h.blk 1 _]
    unfold poolCells
    rw [hlen, count_take hfr]
    rfl
  · refine (h.inv.back hsm).congr (fun j => ?_) (fun _ => Iff.rfl) (fun q => ?_)
    · exact hget j
    · split
      · rename_i g; have := hz q g; omega
      · rfl
  · rw [hlen]
    obtain ⟨i, hi, rfl⟩ := mem_getD ht
    rw [hs]
    exact getD_le h.rising (by omega) (by omega)
  · have := h.own j hj
    exact ⟨this.1, Nat.lt_of_lt_of_le this.2 hall.size⟩
def backM (sz : Nat) (r : Int) : Nat := if r < 0 then 0 else sz + 1 - r.toNat
theorem backM_lt {sz p : Nat} {r : Int} (hp : p < sz) (hr : r < 0 ∨ (p : Int) < r) : backM sz r < backM sz (p : Int) := by
  unfold backM
  rw [if_neg (show ¬ (p : Int) < 0 by omega)]
  by_cases e : r < 0
  · rw [if_pos e]; omega
  · rw [if_neg e]; omega
set_option maxRecDepth 100000 in
set_option maxHeartbeats 4000000 in
theorem back_any (h : PoolAt (· ∈ St) S B b k sz so scap ao cap T f lim F St w) :
    Calls Try.prog 17 #[.pointer (some ⟨b, 0, none⟩)] w fun e w' => e = .returned (.int .i64 0) ∧ ∃ T' f', PoolAt (· ∈ St) S B b k sz so scap ao cap T' f' lim (F.take (lastOf St)) St w' ∧ Only S w w' := by
  have HC := Lib.hid (closed_no h)
  have H := Lib.hid h
  have hone := h.one
  have hsg := h.segs
  have hfew := h.few
  have hroom := h.room
  have c2 := h.c2
  obtain ⟨g, hg, _⟩ := h.start 0 0 h.first
  subst hg
  have cs := start_cell h.starts (St.length - 1) (by omega)
  change w.cell? _ = some (.int .i64 (lastOf St : Int)) at cs
  have HQ1 : Hid (∀ N, Calls Try.prog 39 #[.pointer (some ⟨b, 0, none⟩)] (w.drewN N) fun e w' => e = .returned (.int .i64 ((St.length - 1 : Nat) : Int)) ∧ w' = w.drewN N) := Lib.hid (fun N => (last_seg (H.out.drewN N)).mono (fun _ _ hh => ⟨hh.1, hh.2.symm⟩))
  have HSep := Lib.hid h.apart.2.1
  have hi1 : ((St.length - 1 : Nat) : Int) < (St.length : Int) := by omega
  obtain ⟨s, hs⟩ : ∃ s, s = lastOf St := ⟨_, rfl⟩
  have HS := Lib.hid hs
  rw [← hs] at cs ⊢
  clear h hs
  generalize hm : St.length - 1 = m at *
  have HM := Lib.hid hm
  clear hm
  go_enter Try.func17, Try.ntmps17
  go_wp2_with fail
  refine HC.out.mono ?_
  rintro e w1 ⟨rfl, rfl⟩
  go_wp2_with fail
  go_quiet ((go_at_call 39; exact Calls.quiet_of_same (HQ1.out _)))
  have H1 := Lib.hid (H.out.drewN nq)
  have HO1 : Hid (Only S w (w.drewN nq)) := Lib.hid (Only.drewN _ _ _)
  clear c2 cs HQ1 HC
  generalize w.drewN nq = w2 at *
  go_wp2_with fail
  refine (first_p s 1 H1.out (by omega) (by omega)).mono ?_
  rintro e w3 ⟨⟨r, rfl, hr⟩, rfl⟩
  have HB : Hid (BackI S B b k sz (some ⟨g, 0, none⟩) scap ao cap lim F St s w r T f F w2) := Lib.hid ⟨H1.out, HO1.out, rfl, fun _ _ => rfl, hr⟩
  clear hr
  go_wp2_with fail
  go_loopw [4] (fun v wr => ∃ (r : Int) (T' : List Int) (f' : Nat → Nat) (F' : List Bool), v = .int .i64 r ∧ -1 ≤ r ∧ r < sz ∧ Hid (BackI S B b k sz (some ⟨g, 0, none⟩) scap ao cap lim F St s w r T' f' F' wr)) (fun v _ => backM sz (intOf v))
  case atStart =>
    refine ⟨r, T, f, F, rfl, ?_, ?_, HB⟩
    · rcases HB.out.first with ⟨rfl, _⟩ | ⟨p, rfl, _⟩ <;> omega
    · rcases HB.out.first with ⟨rfl, _⟩ | ⟨p, rfl, _, h2, _⟩
      · omega
      · rcases Nat.lt_or_ge p sz with hl | hg
        · omega
        · have := H.out.rest p hg; omega
  case round =>
    obtain ⟨r, T1, f1, F1, rfl, hr0, hr1, HI⟩ := hrel
    rcases HI.out.first with ⟨rfl, hz⟩ | ⟨p, rfl, hp1, hp2, hp3⟩
    · have hbl := (H1.out.own b H1.out.inS.1).2
      have HF := Lib.hid (fun w6 e => HI.out.pool.backed (w1 := w6) HS.out hz e)
      have HO := Lib.hid HI.out.only
      have HT : Hid (F1.take s = F.take s) := Lib.hid (by
        have hl := HI.out.len
        have hlow := HI.out.low
        refine List.ext_getElem? (fun j => ?_)
        by_cases hj : j < s
        · rw [List.getElem?_take_of_lt hj, List.getElem?_take_of_lt hj]
          have := hlow j hj
          simp only [List.getD_eq_getElem?_getD] at this
          rcases Nat.lt_or_ge j F.length with g | g
          · rw [List.getElem?_eq_getElem (by omega), List.getElem?_eq_getElem g] at this ⊢
            simpa using this
          · rw [List.getElem?_eq_none (by omega), List.getElem?_eq_none g]
        · rw [List.getElem?_eq_none (by rw [List.length_take]; omega), List.getElem?_eq_none (by rw [List.length_take]; omega)])
      have d1 := HI.out.pool.c1
      have g1 := free_of_blk HI.out.pool.blk 1
      rw [HT.out] at HF
      clear hz HI
      go_wp2_with fail
      go_ret
      exact ⟨rfl, T1, f1, (HF.out _ rfl).1, HO.out.same (HF.out _ rfl).2⟩
    · have hsz : 0 < sz := by omega
      have hps : p < sz := by omega
      have HDrop := Lib.hid (fun r hr => HI.out.pool.drop (r := r) hp1 hp2 hp3 hr)
      have c5 := HI.out.pool.c5
      have g5 := free_of_blk HI.out.pool.blk 5
      have hcut := HI.out.pool.cutting (a := p) (n := f1 p) hp2 (Nat.le_refl _)
      have hcl := count_le F1
      have hl := HI.out.len
      have HRN := Lib.hid (HI.out.pool.runsF hsz)
      have hcnt : ((count F1 : Int) - (f1 p : Int)) = (count (put F1 p false (f1 p)) : Int) := by omega
      have HCut := Lib.hid hcut
      have HCnt := Lib.hid hcnt
      clear hcnt
      have HRD : Hid (RunsF B b 3 k sz ao cap f1 T1 wr.drew) := Lib.hid (HRN.out.drewN 1)
      have hbl := (HI.out.pool.own b HI.out.pool.inS.1).2
      have hb1 : (f1 p : Int) ≤ 1048576 := by omega
      have hb2 : (count F1 : Int) ≤ 1048576 := by omega
      generalize hx : f1 p = x at *
      have HX := Lib.hid hx
      generalize hcc : count F1 = c at *
      have HCC := Lib.hid hcc
      clear hx hcc hcut hp3 hcl
      have hw1 : IntKind.i64.wrap ((c : Int) - (x : Int)) = (c : Int) - x := IntWalk.i64_in _ (by omega)
      go_wp2_with fail
      go_region_law (first
        | (go_simp; go_at_call 44; refine (at_f p hps HRD.out).mono ?_; rintro e w4 ⟨rfl, ho⟩; (try rw [HX.out]); have HO4 := Lib.hid ho; have hsz4 := ho.size; clear ho; have c5' : w4.cell? ⟨b, 5, none⟩ = some (.int .i64 c) := (((Only.drew (fun _ => False) wr).same HO4.out).cell (p := ⟨b, 5, none⟩) hbl (fun e => e)).trans c5; have g5' : w4.frozen? ⟨b, 5, none⟩ = false := (((Only.drew (fun _ => False) wr).same HO4.out).frozen (p := ⟨b, 5, none⟩) hbl (fun e => e)).trans g5))
      all_goals
        clear hw1 c5 g5 c5' g5'
        have H4 := Lib.hid ((HI.out.pool.drewN 1).only HO4.out)
        rw [HCnt.out]
        have HR4 := Lib.hid (H4.out.runsF5 (v := .int .i64 (count (put F1 p false x))) hsz rfl)
        have HP4 := Lib.hid (fun w5 T' f' => H4.out.loosed (T' := T') (f' := f') (F' := put F1 p false x) (w2 := w5) hsz rfl)
        go_wp2_with fail
        refine (set_f p 0 HR4.out hps (by omega) HSep.out).mono ?_
        rintro e w5 ⟨rfl, T5, hr, ho⟩
        have H5 := Lib.hid (HP4.out w5 T5 _ hr ho (by have hci := HCut.out.1; rw [← HX.out, cut_whole, HX.out] at hci; exact hci) (put_len _ _ _ _))
        clear hr ho
        go_wp2_with fail
        refine (first_p p 1 H5.out.1 (by omega) (by omega)).mono ?_
        rintro e w6 ⟨⟨r', rfl, hr'⟩, rfl⟩
        have HN : Hid (BackI S B b k sz (some ⟨g, 0, none⟩) scap ao cap lim F St s w r' T5 (fun q => if q = p then 0 else f1 q) (put F1 p false x) w5) := Lib.hid ⟨H5.out.1, (((HI.out.only.same (Only.drew S wr)).same (HO4.out.no S)).same H5.out.2), by rw [put_len]; exact hl, fun j hj => by
            rw [put_get F1 p false x (by have := HCut.out.2.1; omega), if_neg (by omega)]; exact HI.out.low j hj, HDrop.out r' hr'⟩
        have hr2 : -1 ≤ r' ∧ r' < sz ∧ (r' < 0 ∨ (p : Int) < r') := by
          rcases hr' with ⟨rfl, _⟩ | ⟨p', rfl, g1, g2, _⟩
          · omega
          · replace g2 : 1 ≤ (if p' = p then 0 else f1 p') := g2
            have h1 : p' ≠ p := by intro e; rw [if_pos e] at g2; omega
            rw [if_neg h1] at g2
            rcases Nat.lt_or_ge p' sz with hl2 | hg2
            · omega
            · have := HI.out.pool.rest p' hg2; omega
        clear hr'
        go_wp2_with fail
        go_roundw
        case rel => exact ⟨r', T5, _, _, rfl, hr2.1, hr2.2.1, HN⟩
        case measure => exact backM_lt hps hr2.2.2
end
end Go.Proofs.Ytaplfibhhdngbaa.pools
/- Where segments begin, told. -/
namespace Go.Proofs.Ytaplfibhhdngbaa.pools
section
open Go.RowKit Go.Proofs.Ytaplfibhhdngbaa.own Go.Proofs.Ytaplfibhhdngbaa.trees Go.Proofs.Ytaplfibhhdngbaa.rows
variable {Sm S : Nat → Prop} {B b k sz : Nat} {so : Option Addr} {scap : Nat} {ao : Option Addr} {cap : Nat} {T : List Int} {f : Nat → Nat} {lim : Nat} {F : List Bool} {St : List Nat} {w w' : World} {o : Nat}
/-- make([]T, 0, n) in a region that draws, on the goal as the walk leaves it. -/
theorem upon_make_own {P : Program} {o : Oper} {a : Act} {w : World} {K : Act → World → Prop} {Q : Exit → Act → World → Prop} (t : TypeId)
    (base : Nat) (e : TypeId) (i : TypeInfo) (z : Value) (size : Nat) (h1 : P.underlying t = some (.slice e)) (h2 : P.info? e = some i) (h3 : i.zero = some z) (h4 : i.size = size) (by_ : Nat) (hby : i.bytes = by_)
    (kl kc : IntKind) (n : Nat) (b2 : by_ * n ≤ 281474976710656) (b3 : n ≤ maxLen) (b4 : base ≤ w.heap.size) (H : Nat) (hH : w.heap.size = H)
    (hK : ∀ w', w'.ownsRow base e size (.slice (some ⟨H, 0, none⟩) 0 n) 0 [] → w.grownBy w' none → K (a.put o.dst (.slice (some ⟨H, 0, none⟩) 0 n)) w') :
    Oper.upon P o a K Q ((Sem.run P (Instr.makeSlice t (Value.int kl 0) (Value.int kc (n : Int))) w).andThen fun a w' => Result.ok (Next.value a) w') := by
  obtain ⟨w', hrun, r1, r2⟩ := run_make_own (P := P) w base t e i z size h1 h2 h3 h4 kl kc n (by rw [hby]; exact b2) b3 b4
  subst hH
  rw [hrun]
  simp [Result.andThen, Oper.upon]
  exact hK _ r1 r2
theorem cells_kept {cs : List Value} {g : Nat} {w w2 : World} (h : ∀ j u, cs[j]? = some u → w.cell? ((⟨g, 0, none⟩ : Addr).add j) = some u) (ho : Only (fun _ => False) w w2) (hg : g < w.heap.size) : ∀ j u, cs[j]? = some u → w2.cell? ((⟨g, 0, none⟩ : Addr).add j) = some u := by
  intro j u hu
  rw [ho.cell (by unfold Addr.add; split <;> exact hg) (fun e => e)]
  exact h j u hu
set_option maxRecDepth 100000 in
set_option maxHeartbeats 4000000 in
theorem starts_any (h : PoolAt Sm S B b k sz so scap ao cap T f lim F St w) :
    Calls Try.prog 13 #[.pointer (some ⟨b, 0, none⟩)] w fun e w' => ∃ ro rcap, e = .returned (.slice ro St.length rcap) ∧ RowOf enc64 1 3 w.heap.size ro rcap St w' ∧ Only (fun _ => False) w w' := by
  obtain ⟨i0, hi, hz0, hz1, hz2⟩ := info_parts info64
  have HC := Lib.hid (closed_no h)
  have c2 := h.c2
  have hB := h.own b h.inS.1
  have hone := h.one
  have hsg := h.segs
  obtain ⟨g0, hg0, _⟩ := h.start 0 0 h.first
  subst hg0
  have hg0l : g0 < w.heap.size := (h.starts.head _ rfl).2.2
  have HCL := Lib.hid (World.ownsRow.cells (g := g0) h.starts rfl)
  have hfl : (St.flatMap enc64).length = St.length := by rw [flat_len lies64]; omega
  have hone1 : ∀ u ∈ St.flatMap enc64, u.oneCell' = true := by
    intro u hu
    obtain ⟨x, _, hx⟩ := List.mem_flatMap.1 hu
    exact lies64.one x u hx
  have HFL := Lib.hid hfl
  have HO1 := Lib.hid hone1
  have HONE := Lib.hid hone
  have HSG := Lib.hid hsg
  have c2d : w.drew.cell? ⟨b, 2, none⟩ = some (.slice (some ⟨g0, 0, none⟩) St.length scap) := ((Only.drew (fun _ => False) w).cell (p := ⟨b, 2, none⟩) hB.2 (fun e => e)).trans c2
  generalize hn : St.length = n at *
  have HN := Lib.hid hn
  clear h hn hfl hone1 hone
  go_enter Try.func13, Try.ntmps13
  go_wp2_with fail
  refine HC.out.mono ?_
  rintro e w1 ⟨rfl, rfl⟩
  go_wp2_with fail
  go_region_held3 (fun w' => w'.cell? ⟨b, 2, none⟩ = some (.slice (some ⟨g0, 0, none⟩) n scap)) (go_keep) (first
    | (refine upon_make_own 38 w.heap.size 3 i0 _ 1 Try.underlying38 hi hz0 hz1 8 hz2 .i64 .i64 n (by omega) (by unfold maxLen; omega) (by simp) w.heap.size (by simp) ?_; intro w2 hown2 hg2; have c2e : w2.cell? ⟨b, 2, none⟩ = some (.slice (some ⟨g0, 0, none⟩) n scap) := ((Only.grown hg2).cell (p := ⟨b, 2, none⟩) hB.2 (fun e => by cases e)).trans c2d; have hs2 := hg2.size)
    | (refine step_append_lies _ (by rfl) _ _ _ (by rfl) w.heap.size 3 i0 _ 1 8 Try.underlying38 hi hz0 hz1 hz2 rfl (by omega) (.slice (some ⟨w.heap.size, 0, none⟩) 0 n) 0 [] (by rfl) hown2 ⟨g0, 0, none⟩ n scap (St.flatMap enc64) (by rfl) (by rw [HFL.out]; omega)
        (cells_kept HCL.out ((Only.drew (fun _ => False) w).same ((Only.grown hg2).mono (fun _ _ e => by cases e))) hg0l) HO1.out HONE.out (by unfold maxLen; omega) (by omega) hs2 w2.heap.size rfl ?_; intro gg cap' w5 hown5 hg5 hat5 hlt5
       have hs3 : w.heap.size ≤ w2.heap.size := hs2
       have c2f : w5.cell? ⟨b, 2, none⟩ = some (.slice (some ⟨g0, 0, none⟩) n scap) := ((Only.grown hg5).cell (p := ⟨b, 2, none⟩) (Nat.lt_of_lt_of_le hB.2 hs3) (fun e => by simp [Value.ownBlock] at e; omega)).trans c2e))
  have HF : Hid (RowOf enc64 1 3 w.heap.size (some ⟨gg, 0, none⟩) cap' St w5 ∧ Only (fun _ => False) w w5) := Lib.hid ⟨by
    unfold RowOf
    rw [HN.out]
    simpa using hown5, ((Only.drew (fun _ => False) w).same ((Only.grown hg2).mono (fun _ _ e => by cases e))).trans (Only.grown hg5) (fun j hj e => by simp [Value.ownBlock] at e; omega)⟩
  clear hown5 hg5 hat5 hlt5 c2f hown2 hg2 c2e hs2
  go_wp2_with fail
  go_ret
  exact ⟨_, _, rfl, HF.out⟩
end
end Go.Proofs.Ytaplfibhhdngbaa.pools
