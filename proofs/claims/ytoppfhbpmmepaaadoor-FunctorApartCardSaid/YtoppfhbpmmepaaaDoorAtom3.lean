
/- What is done once: the table is made ready. -/
import Derived.Test.YtoppfhbpmmepaaaDoorAtom2
namespace Go.Proofs.YtoppfhbpmmepaaaDoor.atoms
open Go.RowKit Go.Proofs.YtoppfhbpmmepaaaDoor.own Go.Maps
section
variable {S : Nat → Prop} {B b : Nat} {lim d st low made : Int} {sl : List ASlot} {w : World}

theorem Core.turned {ao : Option Addr} {cap m : Nat} {w' : World} {lim' d' st' low' made' : Int} (h : Core S B b lim d st ao cap m low made sl w) (ho : Only (· = b) w w')
    (hb' : w'.heap[b]? = some (.cells #[.int .i64 lim', .int .u32 d', .int .i32 st', .int .u32 0, .slice ao sl.length cap, .map (some m), .int .i64 low', .int .i64 made'] 72 (0, 0))) : Core S B b lim' d' st' ao cap m low' made' sl w' := by
  obtain ⟨D, h1, h2⟩ := h.map
  exact ⟨hb', h.row.only ho (fun g hg => (h.other g hg).1), ⟨D, map_only h1 ho (fun e => h.bm e.symm), h2⟩, h.apart, h.names, h.few, h.own, fun k hk => ⟨(h.lt k hk).1, Nat.lt_of_lt_of_le (h.lt k hk).2 ho.size⟩, h.bm, h.other⟩
theorem Tbl.setDone (h : Tbl S B b lim d st low made sl w) (x : Int) : Tbl S B b lim x st low made sl (w.setCell ⟨b, 1, none⟩ (.int .u32 x)) := by
  obtain ⟨ao, cap, m, h⟩ := h
  exact ⟨ao, cap, m, h.turned (Only.setCell (S := (· = b)) _ (p := ⟨b, 1, none⟩) rfl _) (by simpa using blk_set h.blk 1 (.int .u32 x))⟩
theorem Tbl.setLock (h : Tbl S B b lim d st low made sl w) (x : Int) : Tbl S B b lim d x low made sl (w.setCell ⟨b, 2, none⟩ (.int .i32 x)) := by
  obtain ⟨ao, cap, m, h⟩ := h
  exact ⟨ao, cap, m, h.turned (Only.setCell (S := (· = b)) _ (p := ⟨b, 2, none⟩) rfl _) (by simpa using blk_set h.blk 2 (.int .i32 x))⟩
theorem Tbl.drew (h : Tbl S B b lim d st low made sl w) : Tbl S B b lim d st low made sl w.drew := h.only (Only.drew (fun _ => False) w) (fun _ _ e => e)
theorem Tbl.cells (h : Tbl S B b lim d st low made sl w) : w.cell? ⟨b, 0, none⟩ = some (.int .i64 lim) ∧ w.cell? ⟨b, 1, none⟩ = some (.int .u32 d) ∧ w.cell? ⟨b, 2, none⟩ = some (.int .i32 st) ∧ w.cell? ⟨b, 6, none⟩ = some (.int .i64 low) ∧ w.cell? ⟨b, 7, none⟩ = some (.int .i64 made) ∧ ∀ j, w.frozen? ⟨b, j, none⟩ = false := by
  obtain ⟨ao, cap, m, h⟩ := h
  refine ⟨?_, ?_, ?_, ?_, ?_, fun j => free_of_blk h.blk j⟩ <;> (rw [cell_of_blk h.blk]; rfl)
theorem Bare.cells (h : Bare S B b lim d st w) : w.cell? ⟨b, 0, none⟩ = some (.int .i64 lim) ∧ w.cell? ⟨b, 1, none⟩ = some (.int .u32 d) ∧ w.cell? ⟨b, 2, none⟩ = some (.int .i32 st) ∧ ∀ j, w.frozen? ⟨b, j, none⟩ = false := by
  refine ⟨?_, ?_, ?_, fun j => free_of_blk h.blk j⟩ <;> (rw [cell_of_blk h.blk]; rfl)
theorem Bare.setLock (h : Bare S B b lim d st w) (x : Int) : Bare S B b lim d x (w.setCell ⟨b, 2, none⟩ (.int .i32 x)) :=
  ⟨by simpa using blk_set h.blk 2 (.int .i32 x), h.own, fun k hk => ⟨(h.lt k hk).1, by have := (h.lt k hk).2; simpa [World.setCell] using this⟩⟩

set_option maxRecDepth 100000 in
set_option maxHeartbeats 1600000 in
theorem slow_any (pl : Addr) (h : Bare S B b lim 0 0 w) (hL : Listed w) (hp : w.cell? pl = some (.pointer (some ⟨b, 0, none⟩))) (hpl : ¬ S pl.block) (hgl : ¬ S 0) :
    Calls Tryd.prog 56 #[.pointer (some ⟨b, 1, none⟩), .func (.func 51) #[] #[.pointer (some pl)]] w fun e w' => e = .returned (.tuple #[]) ∧
      Tbl (Grew S w w') B b lim 1 0 0 0 (firstS 15) w' ∧ Only S w w' := by
  obtain ⟨c0, c1, c2, fz⟩ := h.cells
  have f1 := fz 1
  have f2 := fz 2
  have hB : B ≤ w.heap.size := by have := h.lt b h.own; omega
  have hbl : b < w.heap.size := (h.lt b h.own).2
  have HB := Lib.hid h.lt
  have HS := Lib.hid h.own
  have hplt := lt_of_cell? hp
  have hpb : ¬ pl.block = b := fun e => hpl (by rw [e]; exact h.own)
  have hgb : ¬ (0 : Nat) = b := fun e => hgl (by rw [e]; exact h.own)
  have o1 : Only (· = b) w (w.setCell ⟨b, 2, none⟩ (.int .i32 1)) := Only.setCell (S := (· = b)) w (p := ⟨b, 2, none⟩) rfl _
  have hL1 : Listed (w.setCell ⟨b, 2, none⟩ (.int .i32 1)) := fun i hi => (o1.cell (p := ⟨0, i, none⟩) (lt_of_cell? (hL i hi)) hgb).trans (hL i hi)
  have hp1 : (w.setCell ⟨b, 2, none⟩ (.int .i32 1)).cell? pl = some (.pointer (some ⟨b, 0, none⟩)) := (o1.cell hplt hpb).trans hp
  have O1 := Lib.hid o1
  have HL1 := Lib.hid hL1
  have HP1 := Lib.hid hp1
  have H1 := Lib.hid (h.setLock 1)
  have HF2 := Lib.hid f2
  have hnot := run_not
  have hld : Hid (Calls Tryd.prog 55 #[.pointer (some ⟨b, 1, none⟩)] (w.setCell ⟨b, 2, none⟩ (.int .i32 1)) fun e w' => e = .returned (.bool false) ∧ w.setCell ⟨b, 2, none⟩ (.int .i32 1) = w') :=
    Lib.hid (loadB ⟨b, 1, none⟩ 0 false _ (by rw [cell_of_blk (h.setLock 1).blk]; rfl) rfl)
  clear h hL hL1 hp1 hp o1 fz
  go_enter_defers Tryd.func56, Tryd.ntmps56
  go_wp2_with (go_at_call 58; refine (lock_free ⟨b, 2, none⟩ _ c2 f2).mono ?_; rintro e w' ⟨rfl, rfl⟩)
  refine hld.out.mono ?_
  rintro e w' ⟨rfl, rfl⟩
  go_wp2_with fail
  refine (fill_any pl H1.out HL1.out HP1.out hpl hgl).mono ?_
  rintro e w4 ⟨rfl, h4, o4⟩
  have H4 := Lib.hid h4
  clear h4
  go_wp2_with fail
  simp only [bodyPostD, settle]
  have t4 := H4.out
  have c4 := t4.cells
  refine leaves_cons (f := 60) (args := #[.pointer (some ⟨b, 1, none⟩), .bool true]) (by simp) (by simp [go_sem]) ?_
  refine (store_deferred ⟨b, 1, none⟩ (.int .u32 0) .returning _ c4.2.1 (c4.2.2.2.2.2 1)).mono ?_
  rintro e u' w5 ⟨rfl, rfl, rfl⟩
  have t5 := t4.drew.setDone 1
  have c5 := t5.cells
  refine leaves_cons (f := 59) (args := #[.pointer (some ⟨b, 2, none⟩)]) (by simp [settle]) (by simp [go_sem]) ?_
  refine (unlock_deferred ⟨b, 2, none⟩ _ _ c5.2.2.1 (c5.2.2.2.2.2 2)).mono ?_
  rintro e u' w6 ⟨rfl, rfl, rfl⟩
  have t6 := t5.setLock 0
  have o5 : Only (· = b) w4.drew (w4.drew.setCell ⟨b, 1, none⟩ (.int .u32 1)) := Only.setCell (S := (· = b)) _ (p := ⟨b, 1, none⟩) rfl _
  have o6 : Only (· = b) (w4.drew.setCell ⟨b, 1, none⟩ (.int .u32 1)) ((w4.drew.setCell ⟨b, 1, none⟩ (.int .u32 1)).setCell ⟨b, 2, none⟩ (.int .i32 0)) := Only.setCell (S := (· = b)) _ (p := ⟨b, 2, none⟩) rfl _
  have oo : Only S w ((w4.drew.setCell ⟨b, 1, none⟩ (.int .u32 1)).setCell ⟨b, 2, none⟩ (.int .i32 0)) := by
    have hb : ∀ k, k = b → S k := fun k e => by subst e; exact HS.out
    exact ((((O1.out.mono (fun k _ e => hb k e)).same o4).same (Only.drew S w4)).same (o5.mono (fun k _ e => hb k e))).same (o6.mono (fun k _ e => hb k e))
  have hs1 := O1.out.size
  have hs4 := o4.size
  have hs5 := o5.size
  have hs6 := o6.size
  have hsz : (w.setCell ⟨b, 2, none⟩ (.int .i32 1)).heap.size = w.heap.size := by simp [World.setCell]
  have tt : Tbl (Grew S w ((w4.drew.setCell ⟨b, 1, none⟩ (.int .u32 1)).setCell ⟨b, 2, none⟩ (.int .i32 0))) B b lim 1 0 0 0 (firstS 15) ((w4.drew.setCell ⟨b, 1, none⟩ (.int .u32 1)).setCell ⟨b, 2, none⟩ (.int .i32 0)) := by
    have e5 : w4.drew.heap.size = w4.heap.size := rfl
    refine t6.wider ?_ ?_
    · rintro k (hk | hk)
      · exact .inl hk
      · have h1 := hk.1
        have h2 := hk.2
        rw [hsz] at h1
        exact .inr ⟨h1, Nat.lt_of_lt_of_le h2 (Nat.le_trans hs5 hs6)⟩
    · rintro k (hk | hk)
      · have := HB.out k hk; omega
      · exact ⟨by omega, hk.2⟩
  simp [Leaves, settle, results, Tryd.results56]
  exact ⟨tt, oo⟩

/-- A table as New makes it, or one that is ready. -/
inductive Tab (S : Nat → Prop) (B b : Nat) (lim made : Int) (sl : List ASlot) (w : World) : Prop
  | bare (h : Bare S B b lim 0 0 w) (hm : made = 0) (hs : sl = firstS 15)
  | full (low : Int) (h : Tbl S B b lim 1 0 low made sl w) (h0 : 0 ≤ low) (hl : low ≤ sl.length) (hu : ∀ (j : Nat) (x : ASlot), (j : Int) < low → sl[j]? = some x → x.used = true)
/-- One that is ready. -/
def Full (S : Nat → Prop) (B b : Nat) (lim made : Int) (sl : List ASlot) (w : World) : Prop := ∃ low, Tbl S B b lim 1 0 low made sl w ∧ 0 ≤ low ∧ low ≤ sl.length ∧ ∀ (j : Nat) (x : ASlot), (j : Int) < low → sl[j]? = some x → x.used = true
theorem Full.tab {made : Int} (h : Full S B b lim made sl w) : Tab S B b lim made sl w := by
  obtain ⟨low, h1, h2, h3, h4⟩ := h
  exact .full low h1 h2 h3 h4
theorem Tab.bound {made : Int} (h : Tab S B b lim made sl w) : B ≤ b ∧ b < w.heap.size ∧ S b ∧ ∀ k, S k → B ≤ k ∧ k < w.heap.size := by
  cases h with
  | bare h _ _ => exact ⟨(h.lt b h.own).1, (h.lt b h.own).2, h.own, h.lt⟩
  | full low h _ _ _ => exact h.bound
theorem Tab.only {made : Int} {S' : Nat → Prop} {w' : World} (h : Tab S B b lim made sl w) (ho : Only S' w w') (hS : ∀ k, S k → ¬ S' k) : Tab S B b lim made sl w' := by
  cases h with
  | bare h hm hs => exact .bare (h.only ho hS) hm hs
  | full low h h0 hl hu => exact .full low (h.only ho hS) h0 hl hu
theorem Full.only {made : Int} {S' : Nat → Prop} {w' : World} (h : Full S B b lim made sl w) (ho : Only S' w w') (hS : ∀ k, S k → ¬ S' k) : Full S B b lim made sl w' := by
  obtain ⟨low, h1, h2, h3, h4⟩ := h
  exact ⟨low, h1.only ho hS, h2, h3, h4⟩

theorem once_done (f : Value) (a : Addr) (hc : w.cell? a = some (.int .u32 1)) : Calls Tryd.prog 50 #[.pointer (some a), f] w fun e w' => e = .returned (.tuple #[]) ∧ w = w' := by
  have hnot := run_not
  have HC := Lib.hid hc
  clear hc
  go_enter Tryd.func50, Tryd.ntmps50
  go_wp2_with fail
  refine (loadB a 1 true _ HC.out rfl).mono ?_
  rintro e w' ⟨rfl, rfl⟩
  go_wp2_with fail
  go_end0
  exact ⟨rfl, rfl⟩
theorem once_first (pl : Addr) (h : Bare S B b lim 0 0 w) (hL : Listed w) (hp : w.cell? pl = some (.pointer (some ⟨b, 0, none⟩))) (hpl : ¬ S pl.block) (hgl : ¬ S 0) :
    Calls Tryd.prog 50 #[.pointer (some ⟨b, 1, none⟩), .func (.func 51) #[] #[.pointer (some pl)]] w fun e w' => e = .returned (.tuple #[]) ∧
      Tbl (Grew S w w') B b lim 1 0 0 0 (firstS 15) w' ∧ Only S w w' := by
  have hnot := run_not
  have HC := Lib.hid h.cells.2.1
  have HS := Lib.hid (slow_any pl h hL hp hpl hgl)
  clear h hL hp
  go_enter Tryd.func50, Tryd.ntmps50
  go_wp2_with fail
  refine (loadB ⟨b, 1, none⟩ 0 false _ HC.out rfl).mono ?_
  rintro e w' ⟨rfl, rfl⟩
  go_wp2_with fail
  refine HS.out.mono ?_
  rintro e w4 ⟨rfl, h4⟩
  have H4 := Lib.hid h4
  clear h4
  go_wp2_with fail
  go_end0
  exact ⟨rfl, H4.out⟩
theorem ready_nil (w : World) : Calls Tryd.prog 36 #[.pointer none] w fun e w' => e = .returned (.bool false) ∧ Only (fun _ => False) w w' := by
  have hnot := run_not
  go_enter Tryd.func36, Tryd.ntmps36
  go_wp2_with fail
  go_ret
  exact ⟨rfl, Only.alloc _ _ _⟩
end
end Go.Proofs.YtoppfhbpmmepaaaDoor.atoms
