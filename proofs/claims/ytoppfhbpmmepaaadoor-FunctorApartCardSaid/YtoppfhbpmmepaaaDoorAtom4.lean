
/- The table's calls that only tell: New, ready, Len, Slots, Made, has, Name, Marked, Find. -/
import Derived.Test.YtoppfhbpmmepaaaDoorAtom3
namespace Go.Proofs.YtoppfhbpmmepaaaDoor.atoms
open Go.RowKit Go.Proofs.YtoppfhbpmmepaaaDoor.own Go.Maps
section
variable {S : Nat → Prop} {B b : Nat} {lim made : Int} {sl : List ASlot} {w : World}

theorem Full.bound (h : Full S B b lim made sl w) : B ≤ b ∧ b < w.heap.size ∧ S b ∧ ∀ k, S k → B ≤ k ∧ k < w.heap.size := h.tab.bound
theorem Full.wider {S' : Nat → Prop} (h : Full S B b lim made sl w) (hS : ∀ k, S k → S' k) (hlt : ∀ k, S' k → B ≤ k ∧ k < w.heap.size) : Full S' B b lim made sl w := by
  obtain ⟨low, h1, h2⟩ := h
  exact ⟨low, h1.wider hS hlt, h2⟩
theorem Full.grew {w0 : World} (h : Full S B b lim made sl w) (ho : Only S w0 w) (h0 : B ≤ w0.heap.size) : Full (Grew S w0 w) B b lim made sl w :=
  h.wider (fun _ e => .inl e) (fun k hk => by rcases hk with hk | hk; exact h.bound.2.2.2 k hk; omega)
/-- A table behind a second step. -/
theorem Full.chain {wa wb wc : World} (h : Full (Grew (Grew S wa wb) wb wc) B b lim made sl wc) (h1 : wa.heap.size ≤ wb.heap.size) (h2 : wb.heap.size ≤ wc.heap.size) (hB : B ≤ wa.heap.size) (hS : ∀ k, S k → B ≤ k ∧ k < wa.heap.size) : Full (Grew S wa wc) B b lim made sl wc :=
  h.wider (fun _ e => Grew.both h1 h2 e) (fun k hk => by rcases hk with hk | hk; (have := hS k hk; omega); omega)

theorem new_no (n : Int) (w : World) (h : n < 15 ∨ 16384 < n) : Calls Tryd.prog 7 #[.int .i64 n] w fun e w' => e = .returned (.tuple #[.pointer none, .int .i64 1]) ∧ w = w' := by
  by_cases h0 : n < 15
  · clear h
    go_enter Tryd.func7, Tryd.ntmps7
    go_wp2
    go_ret2
    exact ⟨rfl, rfl⟩
  · have h1 : 16384 < n := by omega
    clear h
    go_enter Tryd.func7, Tryd.ntmps7
    go_wp2
    go_ret2
    exact ⟨rfl, rfl⟩
/-- What New leaves. -/
def Made (n : Int) (w : World) (e : Ending) (w' : World) : Prop := e = .returned (.tuple #[.pointer (some ⟨w.heap.size, 0, none⟩), .int .i64 0]) ∧ Tab (Grew (fun _ => False) w w') w.heap.size w.heap.size n 0 (firstS 15) w' ∧ Only (fun _ => False) w w'
theorem new_yes (n : Int) (w : World) (h0 : 15 ≤ n) (h1 : n ≤ 16384) : Calls Tryd.prog 7 #[.int .i64 n] w (Made n w) := by
  go_enter Tryd.func7, Tryd.ntmps7
  go_wp2
  go_ret2
  refine ⟨rfl, .bare ⟨heap_alloc_new w _, .inr ⟨Nat.le_refl _, by simp⟩, ?_⟩ rfl rfl, Only.alloc _ _ _⟩
  rintro k (hk | hk)
  · exact hk.elim
  · exact hk

theorem ready_any (h : Tab S B b lim made sl w) (hL : Listed w) (hl : 15 ≤ lim) (hgl : ¬ S 0) :
    Calls Tryd.prog 36 #[.pointer (some ⟨b, 0, none⟩)] w fun e w' => e = .returned (.bool true) ∧ Full (Grew S w w') B b lim made sl w' ∧ Only S w w' := by
  have hbd := h.bound
  have hnot := run_not
  have ho1 := Only.alloc S w (.cells #[.pointer (some ⟨b, 0, none⟩)] 23)
  have hS1 : ¬ S w.heap.size := fun e => by have := hbd.2.2.2 _ e; omega
  have hbl := hbd.2.1
  have hBw : B ≤ w.heap.size := by omega
  have HBD := Lib.hid hbd.2.2.2
  have hsz : (w.alloc (.cells #[.pointer (some ⟨b, 0, none⟩)] 23)).heap.size = w.heap.size + 1 := by simp
  have hlz : (lim == 0) = false := by simp; omega
  have hL1 : Listed (w.alloc (.cells #[.pointer (some ⟨b, 0, none⟩)] 23)) := fun i hi => ((Only.alloc (fun _ => False) w _).cell (p := ⟨0, i, none⟩) (lt_of_cell? (hL i hi)) (fun e => e)).trans (hL i hi)
  have hof := Only.alloc (fun _ => False) w (.cells #[.pointer (some ⟨b, 0, none⟩)] 23)
  cases h with
  | bare h hm hs =>
    subst hm hs
    have c0 := h.cells.1
    have hB1 : Bare S B b lim 0 0 (w.alloc (.cells #[.pointer (some ⟨b, 0, none⟩)] 23)) := h.only hof (fun _ _ e => e)
    have HO := Lib.hid (once_first ⟨w.heap.size, 0, none⟩ hB1 hL1 (by simp) hS1 hgl)
    have HO1 := Lib.hid ho1
    have HZ := Lib.hid hsz
    clear h hL1 hB1 hbd ho1 hof hsz hL
    go_enter Tryd.func36, Tryd.ntmps36
    go_wp2_with fail
    refine HO.out.mono ?_
    rintro e w4 ⟨rfl, h4, o4⟩
    have HH : Hid (Full (Grew S w w4) B b lim 0 (firstS 15) w4 ∧ Only S w w4) := by
      have hs4 := o4.size
      have hz := HZ.out
      refine Lib.hid ⟨⟨0, h4.wider ?_ ?_, by omega, by omega, fun j x hj => by omega⟩, HO1.out.same o4⟩
      · rintro k (hk | hk)
        · exact .inl hk
        · exact .inr ⟨by omega, hk.2⟩
      · rintro k (hk | hk)
        · have := HBD.out k hk; omega
        · omega
    clear h4 o4
    go_wp2_with fail
    go_ret
    exact ⟨rfl, HH.out⟩
  | full low h h0 hl2 hu =>
    have c0 := h.cells.1
    have c1 := h.cells.2.1
    have hc1 : (w.alloc (.cells #[.pointer (some ⟨b, 0, none⟩)] 23)).cell? ⟨b, 1, none⟩ = some (.int .u32 1) := (hof.cell (p := ⟨b, 1, none⟩) hbl (fun e => e)).trans c1
    have HO := Lib.hid (once_done (.func (.func 51) #[] #[.pointer (some ⟨w.heap.size, 0, none⟩)]) ⟨b, 1, none⟩ hc1)
    have HF : Hid (Full (Grew S w (w.alloc (.cells #[.pointer (some ⟨b, 0, none⟩)] 23))) B b lim made sl (w.alloc (.cells #[.pointer (some ⟨b, 0, none⟩)] 23)) ∧ Only S w (w.alloc (.cells #[.pointer (some ⟨b, 0, none⟩)] 23))) :=
      Lib.hid ⟨Full.grew (S := S) ⟨low, h.only hof (fun _ _ e => e), h0, hl2, hu⟩ ho1 (by omega), ho1⟩
    clear h hL1 hbd ho1 hof hsz hL hu hc1 c1
    go_enter Tryd.func36, Tryd.ntmps36
    go_wp2_with fail
    refine HO.out.mono ?_
    rintro e w4 ⟨rfl, rfl⟩
    go_wp2_with fail
    go_ret
    exact ⟨rfl, HF.out⟩

/-- The table is kept as it was. -/
def Kept (S : Nat → Prop) (B b : Nat) (lim made : Int) (sl : List ASlot) (w w' : World) : Prop := Full (Grew S w w') B b lim made sl w' ∧ Only S w w'
theorem Kept.next {w1 w2 : World} (h : Full (Grew S w w1) B b lim made sl w1) (h1 : Only S w w1) (h2 : Only (fun _ => False) w1 w2) (hB : B ≤ w.heap.size) (hS : ∀ k, S k → B ≤ k ∧ k < w.heap.size) : Kept S B b lim made sl w w2 := by
  have hs := h2.size
  have hs1 := h1.size
  refine ⟨(h.only h2 (fun _ _ e => e)).wider ?_ ?_, h1.same (h2.no S)⟩
  · rintro k (hk | hk)
    · exact .inl hk
    · exact .inr ⟨hk.1, by omega⟩
  · rintro k (hk | hk)
    · have := hS k hk; omega
    · omega

theorem keyOfM {n : ByteArray} (h : n.size ≤ maxLen) : keyOf Tryd.prog 9 (.string n) = some (keyN n) := WideMaps.keyOf_string_mk Tryd.underlying9 h

def hasS (sl : List ASlot) (i : Int) : Bool := decide (0 ≤ i) && (sl[i.toNat]?.map (·.used)).getD false
theorem hasS_neg {i : Int} (h : i < 0) : hasS sl i = false := by simp [hasS]; omega
theorem hasS_far {i : Int} (h : (sl.length : Int) ≤ i) : hasS sl i = false := by
  have : sl[i.toNat]? = none := List.getElem?_eq_none (by omega)
  simp [hasS, this]
theorem hasS_at {j : Nat} {x : ASlot} (h : sl[j]? = some x) : hasS sl (j : Int) = x.used := by simp [hasS, h]

theorem has_any {ao : Option Addr} {cap m : Nat} {d st low : Int} (i : Int) (h : Core S B b lim d st ao cap m low made sl w) :
    Calls Tryd.prog 52 #[.pointer (some ⟨b, 0, none⟩), .int .i64 i] w fun e w' => e = .returned (.bool (hasS sl i)) ∧ w = w' := by
  have c4 := cell_of_blk h.blk 4
  simp at c4
  have hfew := h.few
  have hcap := h.row.cap_ge
  rcases (by omega : i < 0 ∨ (sl.length : Int) ≤ i ∨ (0 ≤ i ∧ i < (sl.length : Int))) with h0 | h0 | h0
  · have HD := Lib.hid (hasS_neg (sl := sl) h0)
    clear h
    go_enter Tryd.func52, Tryd.ntmps52
    go_wp2
    go_ret
    exact ⟨by rw [HD.out]; rfl, rfl⟩
  · have HD := Lib.hid (hasS_far h0)
    have h1 : 0 ≤ i := by omega
    clear h
    go_enter Tryd.func52, Tryd.ntmps52
    go_wp2
    go_ret
    exact ⟨by rw [HD.out]; rfl, rfl⟩
  · obtain ⟨j, rfl⟩ := Int.eq_ofNat_of_zero_le h0.1
    have hj : j < sl.length := by omega
    obtain ⟨x, hx⟩ : ∃ x, sl[j]? = some x := ⟨_, List.getElem?_eq_getElem hj⟩
    obtain ⟨g, rfl, hg, hc⟩ := h.row.at liesS j x hx
    have k1 := (hc 1 (by omega)).1
    simp only [encS, List.getElem?_cons_zero, List.getElem?_cons_succ] at k1
    have HD := Lib.hid (hasS_at hx)
    clear h hc hx h0
    go_enter Tryd.func52, Tryd.ntmps52
    go_wp2
    go_ret
    exact ⟨by rw [HD.out]; rfl, rfl⟩

theorem len_any (h : Tab S B b lim made sl w) (hL : Listed w) (hl : 15 ≤ lim) (hgl : ¬ S 0) :
    Calls Tryd.prog 16 #[.pointer (some ⟨b, 0, none⟩)] w fun e w' => e = .returned (.int .i64 (used sl)) ∧ Kept S B b lim made sl w w' := by
  have hnot := run_not
  have HB := Lib.hid h.bound
  have HR := Lib.hid (ready_any h hL hl hgl)
  clear h hL
  go_enter Tryd.func16, Tryd.ntmps16
  go_wp2_with fail
  refine HR.out.mono ?_
  rintro e w1 ⟨rfl, h1, o1⟩
  have HK : Hid (Kept S B b lim made sl w w1) := ⟨h1, o1⟩
  obtain ⟨low, ⟨ao, cap, m, hc⟩, _⟩ := h1
  have c5 := cell_of_blk hc.blk 5
  simp at c5
  obtain ⟨D, hD, hM⟩ := hc.map
  have HZ := Lib.hid hM.size
  have hlen := hD.len Tryd.underlying67
  rw [hM.size] at hlen
  clear hc hM o1 hD
  go_wp2_with fail
  go_ret
  exact ⟨rfl, HK.out⟩
end
end Go.Proofs.YtoppfhbpmmepaaaDoor.atoms
