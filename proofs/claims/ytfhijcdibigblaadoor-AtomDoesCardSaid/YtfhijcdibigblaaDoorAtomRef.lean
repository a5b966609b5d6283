/- The document's answer for a table, by definition: contracts of its calls. -/
import Derived.Test.YtfhijcdibigblaaDoorAtom12
namespace Go.Proofs.YtfhijcdibigblaaDoor.atoms
open Go.RowKit Go.Proofs.YtfhijcdibigblaaDoor.own Go.Maps

abbrev RSlotsP (B : Nat) (ao : Option Addr) (cap : Nat) (sl : List ASlot) (w : World) : Prop := RowOf encS 3 39 B ao cap sl w
/-- A table of the document's. -/
structure RCore (R : Nat → Prop) (B b : Nat) (lim made : Int) (ao : Option Addr) (cap : Nat) (sl : List ASlot) (w : World) : Prop where
  blk : w.heap[b]? = some (.cells #[.slice ao sl.length cap, .int .i64 lim, .int .i64 made] 36 (0, 0))
  row : RSlotsP B ao cap sl w
  own : ∀ k, (k = b ∨ RowAt ao k) → R k
  lt : ∀ k, R k → B ≤ k ∧ k < w.heap.size
  other : ∀ g, ao = some g → g.block ≠ b
  few : sl.length ≤ 16384
def RTbl (R : Nat → Prop) (B b : Nat) (lim made : Int) (sl : List ASlot) (w : World) : Prop := ∃ ao cap, RCore R B b lim made ao cap sl w
theorem infoR : (Tryd.prog.info? 39).map (fun i => (i.zero, i.size, i.bytes)) = some (some (.agg #[.string ⟨#[]⟩, .bool false, .bool false]), 3, 24) := by kernel_rfl
section
variable {R : Nat → Prop} {B b : Nat} {lim made : Int} {sl : List ASlot} {w : World}
theorem RCore.only {ao : Option Addr} {cap : Nat} {S' : Nat → Prop} {w' : World} (h : RCore R B b lim made ao cap sl w) (ho : Only S' w w') (hS : ∀ k, R k → ¬ S' k) : RCore R B b lim made ao cap sl w' :=
  ⟨blk_field h.blk ho (hS b (h.own b (.inl rfl))), h.row.only ho (fun g hg => hS _ (h.own _ (.inr ⟨g, hg, rfl⟩))), h.own, fun k hk => ⟨(h.lt k hk).1, Nat.lt_of_lt_of_le (h.lt k hk).2 ho.size⟩, h.other, h.few⟩
theorem RTbl.only {S' : Nat → Prop} {w' : World} (h : RTbl R B b lim made sl w) (ho : Only S' w w') (hS : ∀ k, R k → ¬ S' k) : RTbl R B b lim made sl w' := by
  obtain ⟨ao, cap, h⟩ := h
  exact ⟨ao, cap, h.only ho hS⟩
theorem RTbl.bound (h : RTbl R B b lim made sl w) : B ≤ b ∧ b < w.heap.size ∧ R b ∧ ∀ k, R k → B ≤ k ∧ k < w.heap.size := by
  obtain ⟨ao, cap, h⟩ := h
  have := h.lt b (h.own b (.inl rfl))
  exact ⟨this.1, this.2, h.own b (.inl rfl), h.lt⟩
theorem RTbl.wider {R' : Nat → Prop} (h : RTbl R B b lim made sl w) (hS : ∀ k, R k → R' k) (hlt : ∀ k, R' k → B ≤ k ∧ k < w.heap.size) : RTbl R' B b lim made sl w := by
  obtain ⟨ao, cap, h⟩ := h
  exact ⟨ao, cap, h.blk, h.row, fun k hk => hS k (h.own k hk), hlt, h.other, h.few⟩
theorem RTbl.grew {w0 : World} (h : RTbl R B b lim made sl w) (ho : Only R w0 w) (h0 : B ≤ w0.heap.size) : RTbl (Grew R w0 w) B b lim made sl w :=
  h.wider (fun _ e => .inl e) (fun k hk => by rcases hk with hk | hk; exact h.bound.2.2.2 k hk; omega)

theorem ris_any {ao : Option Addr} {cap : Nat} (i : Int) (h : RCore R B b lim made ao cap sl w) :
    Calls Tryd.prog 17 #[.pointer (some ⟨b, 0, none⟩), .int .i64 i] w fun e w' => e = .returned (.bool (hasS sl i)) ∧ w = w' := by
  have c0 := cell_of_blk h.blk 0
  simp at c0
  have hfew := h.few
  have hcap := h.row.cap_ge
  rcases (by omega : i < 0 ∨ (sl.length : Int) ≤ i ∨ (0 ≤ i ∧ i < (sl.length : Int))) with h0 | h0 | h0
  · have HD := Lib.hid (hasS_neg (sl := sl) h0)
    clear h
    go_enter Tryd.func17, Tryd.ntmps17
    go_wp2_with fail
    go_ret
    exact ⟨by rw [HD.out]; rfl, rfl⟩
  · have HD := Lib.hid (hasS_far h0)
    have h1 : 0 ≤ i := by omega
    clear h
    go_enter Tryd.func17, Tryd.ntmps17
    go_wp2_with fail
    go_ret
    exact ⟨by rw [HD.out]; rfl, rfl⟩
  · obtain ⟨j, rfl⟩ := Int.eq_ofNat_of_zero_le h0.1
    have hj : j < sl.length := by omega
    obtain ⟨x, hx⟩ : ∃ x, sl[j]? = some x := ⟨_, List.getElem?_eq_getElem hj⟩
    obtain ⟨g, rfl, hg, hc⟩ := h.row.at liesS j x hx
    have k1 := (hc 1 (by omega)).1
    simp only [encS, List.getElem?_cons_zero, List.getElem?_cons_succ] at k1
    have HD := Lib.hid (hasS_at hx)
    clear h hc hx h0
    go_enter Tryd.func17, Tryd.ntmps17
    go_wp2_with fail
    go_ret
    exact ⟨by rw [HD.out]; rfl, rfl⟩

/-- How many of the first k slots have names. -/
def usedTo (sl : List ASlot) (k : Nat) : Nat := used (sl.take k)
theorem usedTo_zero (sl : List ASlot) : usedTo sl 0 = 0 := rfl
theorem usedTo_all (sl : List ASlot) : usedTo sl sl.length = used sl := by unfold usedTo; rw [List.take_length]
theorem usedTo_step {k : Nat} {x : ASlot} (h : sl[k]? = some x) : usedTo sl (k + 1) = usedTo sl k + if x.used = true then 1 else 0 := by
  have hk := (List.getElem?_eq_some_iff.1 h).1
  unfold usedTo used
  have e : sl.take (k + 1) = sl.take k ++ [x] := by
    rw [List.take_add_one, h]; rfl
  rw [e, prs_append, List.length_append]
  congr 1
  unfold prs
  split <;> simp [prs]
theorem rlen_any {ao : Option Addr} {cap : Nat} (h : RCore R B b lim made ao cap sl w) :
    Calls Tryd.prog 13 #[.pointer (some ⟨b, 0, none⟩)] w fun e w' => e = .returned (.int .i64 (used sl)) ∧ w = w' := by
  have c0 := cell_of_blk h.blk 0
  simp at c0
  have hfew := h.few
  have hcap := h.row.cap_ge
  have HR := Lib.hid h.row
  clear h
  go_enter Tryd.func13, Tryd.ntmps13
  go_wp2_with fail
  go_loop [3, 4] (fun n i => ∃ k : Nat, i = .int .i64 k ∧ k ≤ sl.length ∧ n = .int .i64 (usedTo sl k)) (fun _ i => sl.length - (intOf i).toNat)
  case atStart => exact ⟨0, rfl, by omega, rfl⟩
  case round =>
    obtain ⟨k, rfl, hk, rfl⟩ := hrel
    have hul : usedTo sl k ≤ 16384 := by unfold usedTo; have := used_le (sl.take k); rw [List.length_take] at this; omega
    by_cases hlt : k < sl.length
    · obtain ⟨x, hx⟩ : ∃ x, sl[k]? = some x := ⟨_, List.getElem?_eq_getElem hlt⟩
      obtain ⟨g, rfl, hg, hc⟩ := HR.out.at liesS k x hx
      have k1 := (hc 1 (by omega)).1
      simp only [encS, List.getElem?_cons_zero, List.getElem?_cons_succ] at k1
      have HS := Lib.hid (usedTo_step hx)
      clear hc hx
      cases hu : x.used with
      | true =>
        rw [hu] at k1
        have HU := Lib.hid hu
        clear hu
        go_wp2_with fail
        go_round
        case rel => exact ⟨k + 1, by go_num, by omega, by rw [HS.out, HU.out, if_pos rfl]; go_num⟩
        case measure => simp [intOf]; omega
      | false =>
        rw [hu] at k1
        have HU := Lib.hid hu
        clear hu
        go_wp2_with fail
        go_round
        case rel => exact ⟨k + 1, by go_num, by omega, by rw [HS.out, HU.out, if_neg (by simp), Nat.add_zero]⟩
        case measure => simp [intOf]; omega
    · obtain rfl : k = sl.length := by omega
      go_wp2_with fail
      go_ret
      exact ⟨by rw [← usedTo_all]; rfl, rfl⟩

/-- The number of the name, or -1. -/
def findR (sl : List ASlot) (n : ByteArray) : Int := match findF sl n with | some j => (j : Int) | none => -1
theorem str_eq (a b : ByteArray) : (a.toList == b.toList) = decide (a.data.toList = b.data.toList) := by
  rw [ByteArray.toList_eq, ByteArray.toList_eq]
  by_cases h : a.data.toList = b.data.toList
  · rw [h]; simp
  · rw [decide_eq_false h]
    exact beq_eq_false_iff_ne.2 h
/-- None of the first k slots has the name. -/
def NoneTo (sl : List ASlot) (n : ByteArray) (k : Nat) : Prop := ∀ (j : Nat) (x : ASlot), j < k → sl[j]? = some x → isN n x = false
theorem NoneTo.found {k : Nat} {n : ByteArray} {x : ASlot} (h : NoneTo sl n k) (hx : sl[k]? = some x) (hn : isN n x = true) : findR sl n = (k : Int) := by
  obtain ⟨hk, he⟩ := List.getElem?_eq_some_iff.1 hx
  have : findF sl n = some k := by
    refine List.findIdx?_eq_some_iff_getElem.2 ⟨hk, by rw [he]; exact hn, ?_⟩
    intro j hj
    have := h j _ hj (List.getElem?_eq_getElem (by omega))
    rw [this]
    simp
  unfold findR
  rw [this]
theorem NoneTo.all {n : ByteArray} (h : NoneTo sl n sl.length) : findR sl n = -1 := by
  have : findF sl n = none := by
    refine List.findIdx?_eq_none_iff.2 ?_
    intro x hx
    obtain ⟨j, hj⟩ := List.getElem?_of_mem hx
    exact h j x (List.getElem?_eq_some_iff.1 hj).1 hj
  unfold findR
  rw [this]
theorem NoneTo.step {k : Nat} {n : ByteArray} {x : ASlot} (h : NoneTo sl n k) (hx : sl[k]? = some x) (hn : isN n x = false) : NoneTo sl n (k + 1) := by
  intro j y hj hy
  by_cases e : j = k
  · subst e; rw [hx] at hy; cases hy; exact hn
  · exact h j y (by omega) hy
theorem rfind_any {ao : Option Addr} {cap : Nat} (n : ByteArray) (h : RCore R B b lim made ao cap sl w) :
    Calls Tryd.prog 26 #[.pointer (some ⟨b, 0, none⟩), .string n] w fun e w' => e = .returned (.int .i64 (findR sl n)) ∧ w = w' := by
  have c0 := cell_of_blk h.blk 0
  simp at c0
  have hfew := h.few
  have hcap := h.row.cap_ge
  have HR := Lib.hid h.row
  clear h
  go_enter Tryd.func26, Tryd.ntmps26
  go_wp2_with fail
  go_loop [5] (fun i => ∃ k : Nat, i = .int .i64 k ∧ k ≤ sl.length ∧ Hid (NoneTo sl n k)) (fun i => sl.length - (intOf i).toNat)
  case atStart => exact ⟨0, rfl, by omega, Lib.hid (fun j x hj => by omega)⟩
  case round =>
    obtain ⟨k, rfl, hk, HN⟩ := hrel
    by_cases hlt : k < sl.length
    · obtain ⟨x, hx⟩ : ∃ x, sl[k]? = some x := ⟨_, List.getElem?_eq_getElem hlt⟩
      obtain ⟨g, rfl, hg, hc⟩ := HR.out.at liesS k x hx
      have k0 := (hc 0 (by omega)).1
      have k1 := (hc 1 (by omega)).1
      simp only [encS, List.getElem?_cons_zero, List.getElem?_cons_succ, Nat.add_zero] at k0 k1
      have HX := Lib.hid hx
      clear hc hx
      cases hu : x.used with
      | true =>
        rw [hu] at k1
        have HU := Lib.hid hu
        cases he : decide (x.name.data.toList = n.data.toList) with
        | true =>
          have heq : (x.name.toList == n.toList) = true := by rw [str_eq]; exact he
          have HF := Lib.hid (HN.out.found HX.out (by unfold isN; rw [hu, he]; rfl))
          clear hu he
          go_wp2_with fail
          go_ret
          exact ⟨by rw [HF.out]; rfl, rfl⟩
        | false =>
          have heq : (x.name.toList == n.toList) = false := by rw [str_eq]; exact he
          have HF := Lib.hid (HN.out.step HX.out (by unfold isN; rw [hu, he]; rfl))
          clear hu he
          go_wp2_with fail
          go_round
          case rel => exact ⟨k + 1, by go_num, by omega, HF⟩
          case measure => simp [intOf]; omega
      | false =>
        rw [hu] at k1
        have HF := Lib.hid (HN.out.step HX.out (by unfold isN; rw [hu]; rfl))
        clear hu
        go_wp2_with fail
        go_round
        case rel => exact ⟨k + 1, by go_num, by omega, HF⟩
        case measure => simp [intOf]; omega
    · obtain rfl : k = sl.length := by omega
      have HF := Lib.hid HN.out.all
      go_wp2_with fail
      go_ret
      exact ⟨by rw [HF.out]; rfl, rfl⟩
end
end Go.Proofs.YtfhijcdibigblaaDoor.atoms
