
/- The reserved names are put in, once. -/
import Derived.Test.YtoppfhbpmmepaaaDoorAtom1
import Derived.Laws.Rows
namespace Go.Proofs.YtoppfhbpmmepaaaDoor.atoms
open Go.RowKit Go.Proofs.YtoppfhbpmmepaaaDoor.own Go.Maps

def resL : List (List UInt8) := [[91, 93], [46], [123, 125], [45], [44], [59], [45, 62], [58, 45], [124], [33], [92, 43], [116, 114, 117, 101], [102, 97, 105, 108], [99, 97, 108, 108], [101, 114, 114, 111, 114]]
def resB (i : Nat) : ByteArray := ⟨(resL.getD i []).toArray⟩
/-- The first k reserved names, in slots. -/
def firstS (k : Nat) : List ASlot := (List.range k).map fun i => ⟨resB i, true, false⟩
theorem firstS_len (k : Nat) : (firstS k).length = k := by simp [firstS]
theorem firstS_get {k i : Nat} (h : i < k) : (firstS k)[i]? = some ⟨resB i, true, false⟩ := by simp [firstS, h]
theorem firstS_some {k i : Nat} {x : ASlot} (h : (firstS k)[i]? = some x) : i < k ∧ x = ⟨resB i, true, false⟩ := by
  have hk : i < k := by have := (List.getElem?_eq_some_iff.1 h).1; rwa [firstS_len] at this
  rw [firstS_get hk] at h
  cases h
  exact ⟨hk, rfl⟩
theorem resL_apart : ∀ i, i < 15 → ∀ j, j < 15 → resL.getD i [] = resL.getD j [] → i = j := by decide
theorem resB_inj {i j : Nat} (hi : i < 15) (hj : j < 15) (h : resB i = resB j) : i = j := by
  refine resL_apart i hi j hj ?_
  have := congrArg (fun b : ByteArray => b.data.toList) h
  simpa [resB] using this
theorem resB_size (i : Nat) (h : i < 15) : (resB i).size ≤ 64 := by
  have : ∀ i, i < 15 → (resL.getD i []).length ≤ 64 := by decide
  have h2 := this i h
  simpa [resB, ByteArray.size] using h2
theorem firstS_no {k : Nat} (h : k < 15) : noId (firstS k) (resB k) := by
  rintro j ⟨x, hx, _, hn⟩
  obtain ⟨hj, rfl⟩ := firstS_some hx
  have := resB_inj (by omega) h hn
  omega
theorem firstS_put (k : Nat) : putS (firstS k) k (resB k) = firstS (k + 1) := by
  unfold putS
  rw [if_neg (by rw [firstS_len]; omega)]
  simp [firstS, List.range_succ]
theorem firstS_open {k : Nat} (h : k < 15) : Open (firstS k) k := .inl ⟨(firstS_len k).symm, by rw [firstS_len]; omega⟩

/-- The program's list of the reserved names. -/
def Listed (w : World) : Prop := ∀ i, i < 15 → w.cell? ⟨0, i, none⟩ = some (.string (resB i))

theorem Grew.both {S : Nat → Prop} {a b c : World} (h1 : a.heap.size ≤ b.heap.size) (h2 : b.heap.size ≤ c.heap.size) {k : Nat} (h : Grew (Grew S a b) b c k) : Grew S a c k := by
  rcases h with (h | h) | h
  · exact .inl h
  · exact .inr (by omega)
  · exact .inr (by omega)
section
variable {S : Nat → Prop} {B b : Nat} {lim d st low made : Int} {sl : List ASlot} {w : World}
theorem Tbl.bound (h : Tbl S B b lim d st low made sl w) : B ≤ b ∧ b < w.heap.size ∧ S b ∧ ∀ k, S k → B ≤ k ∧ k < w.heap.size := by
  obtain ⟨ao, cap, m, h⟩ := h
  exact ⟨h.low_le.1, h.low_le.2, h.own b (.inl rfl), h.lt⟩
theorem Tbl.wider {S' : Nat → Prop} (h : Tbl S B b lim d st low made sl w) (hS : ∀ k, S k → S' k) (hlt : ∀ k, S' k → B ≤ k ∧ k < w.heap.size) : Tbl S' B b lim d st low made sl w := by
  obtain ⟨ao, cap, m, h⟩ := h
  exact ⟨ao, cap, m, h.wider hS hlt⟩
theorem Tbl.chain {wa wb wc : World} (h : Tbl (Grew (Grew S wa wb) wb wc) B b lim d st low made sl wc) (h1 : wa.heap.size ≤ wb.heap.size) (h2 : wb.heap.size ≤ wc.heap.size) (hB : B ≤ wa.heap.size) (hS : ∀ k, S k → B ≤ k ∧ k < wa.heap.size) : Tbl (Grew S wa wc) B b lim d st low made sl wc :=
  h.wider (fun _ e => Grew.both h1 h2 e) (fun k hk => by rcases hk with hk | hk; (have := hS k hk; omega); omega)

/-- The table as New makes it: nothing is in it. -/
structure Bare (S : Nat → Prop) (B b : Nat) (lim d st : Int) (w : World) : Prop where
  blk : w.heap[b]? = some (.cells #[.int .i64 lim, .int .u32 d, .int .i32 st, .int .u32 0, .slice none 0 0, .map none, .int .i64 0, .int .i64 0] 72 (0, 0))
  own : S b
  lt : ∀ k, S k → B ≤ k ∧ k < w.heap.size
theorem Bare.only {S' : Nat → Prop} {w' : World} (h : Bare S B b lim d st w) (ho : Only S' w w') (hS : ∀ k, S k → ¬ S' k) : Bare S B b lim d st w' :=
  ⟨blk_field h.blk ho (hS b h.own), h.own, fun k hk => ⟨(h.lt k hk).1, Nat.lt_of_lt_of_le (h.lt k hk).2 ho.size⟩⟩
/-- A map is made for it. -/
theorem Bare.mapped (h : Bare S B b lim d st w) : Tbl (Grew S w ((w.setCell ⟨b, 5, none⟩ (.map (some w.heap.size))).alloc (.map #[] 0))) B b lim d st 0 0 (firstS 0) ((w.setCell ⟨b, 5, none⟩ (.map (some w.heap.size))).alloc (.map #[] 0)) ∧ Only S w ((w.setCell ⟨b, 5, none⟩ (.map (some w.heap.size))).alloc (.map #[] 0)) := by
  have hb := h.lt b h.own
  have o1 : Only (· = b) w (w.setCell ⟨b, 5, none⟩ (.map (some w.heap.size))) := Only.setCell (S := (· = b)) _ (p := ⟨b, 5, none⟩) rfl _
  have hsz : (w.setCell ⟨b, 5, none⟩ (.map (some w.heap.size))).heap.size = w.heap.size := by simp [World.setCell]
  have o2 := Only.alloc S (w.setCell ⟨b, 5, none⟩ (.map (some w.heap.size))) (.map #[] 0)
  have hbm : w.heap.size ≠ b := by omega
  have hm : MapP w.heap.size 0 (.map []) ((w.setCell ⟨b, 5, none⟩ (.map (some w.heap.size))).alloc (.map #[] 0)) := by
    have := World.ownsMap_made (H := Unit) (w.setCell ⟨b, 5, none⟩ (.map (some w.heap.size))) Tryd.prog 9 (plainElem Tryd.prog 3)
    rw [hsz] at this
    exact this
  have h1 := blk_set h.blk 5 (.map (some w.heap.size))
  have h2 : ((w.setCell ⟨b, 5, none⟩ (.map (some w.heap.size))).alloc (.map #[] 0)).heap[b]? = _ := (Below.heap_alloc _ _ b (by omega)).trans h1
  have hs : ((w.setCell ⟨b, 5, none⟩ (.map (some w.heap.size))).alloc (.map #[] 0)).heap.size = w.heap.size + 1 := by simp [World.setCell]
  refine ⟨⟨none, 0, w.heap.size, ⟨?_, RowOf.nil _ _ _ _ _, ⟨.map [], hm, MapOf.empty⟩, ?_, ?_, by simp [firstS], ?_, ?_, fun e => hbm e.symm, fun g hg => by cases hg⟩⟩, (o1.mono (fun k _ e => by subst e; exact h.own)).same o2⟩
  · simpa [firstS] using h2
  · intro i j x y hx; simp [firstS] at hx
  · intro j x hx; simp [firstS] at hx
  · rintro k (rfl | rfl | ⟨g, hg, _⟩)
    · exact .inl h.own
    · exact .inr (by omega)
    · cases hg
  · rintro k (hk | hk)
    · have := h.lt k hk; omega
    · omega

theorem index_res (k : Nat) (hk : k < 15) (w : World) : (Instr.index 105 (.agg #[.string (resB 0), .string (resB 1), .string (resB 2), .string (resB 3), .string (resB 4), .string (resB 5), .string (resB 6), .string (resB 7), .string (resB 8), .string (resB 9), .string (resB 10), .string (resB 11), .string (resB 12), .string (resB 13), .string (resB 14)]) (.int .i64 k)).run Tryd.prog w = .ok (.string (resB k)) w := by
  obtain rfl | rfl | rfl | rfl | rfl | rfl | rfl | rfl | rfl | rfl | rfl | rfl | rfl | rfl | rfl : k = 0 ∨ k = 1 ∨ k = 2 ∨ k = 3 ∨ k = 4 ∨ k = 5 ∨ k = 6 ∨ k = 7 ∨ k = 8 ∨ k = 9 ∨ k = 10 ∨ k = 11 ∨ k = 12 ∨ k = 13 ∨ k = 14 := by omega
  all_goals kernel_rfl
theorem lt_of_cell? {W : World} {p : Addr} {x : Value} (h : W.cell? p = some x) : p.block < W.heap.size := by
  unfold World.cell? at h
  cases hb : W.heap[p.block]? with
  | none => simp [hb] at h
  | some o => exact (Array.getElem?_eq_some_iff.1 hb).1

set_option maxHeartbeats 1600000 in
set_option maxRecDepth 100000 in
theorem fill_any (pl : Addr) (h : Bare S B b lim d st w) (hL : Listed w) (hp : w.cell? pl = some (.pointer (some ⟨b, 0, none⟩))) (hpl : ¬ S pl.block) (hgl : ¬ S 0) :
    Calls Tryd.prog 51 #[.pointer (some pl)] w fun e w' => e = .returned (.tuple #[]) ∧ Tbl (Grew S w w') B b lim d st 0 0 (firstS 15) w' ∧ Only S w w' := by
  have hplt := lt_of_cell? hp
  have h0l : (0 : Nat) < w.heap.size := lt_of_cell? (hL 0 (by omega))
  have l0 := hL 0 (by omega); have l1 := hL 1 (by omega); have l2 := hL 2 (by omega); have l3 := hL 3 (by omega); have l4 := hL 4 (by omega)
  have l5 := hL 5 (by omega); have l6 := hL 6 (by omega); have l7 := hL 7 (by omega); have l8 := hL 8 (by omega); have l9 := hL 9 (by omega)
  have l10 := hL 10 (by omega); have l11 := hL 11 (by omega); have l12 := hL 12 (by omega); have l13 := hL 13 (by omega); have l14 := hL 14 (by omega)
  have hbl : b < w.heap.size := (h.lt b h.own).2
  have hmk : ∀ W : World, (Instr.makeMap 67 (some (.int .i64 15))).run Tryd.prog W = .ok (.map (some W.heap.size)) (W.alloc (.map #[] 0)) := fun W => by first | rfl | simp [Instr.makeMap]
  have c5 := cell_of_blk h.blk 5
  have f5 := free_of_blk h.blk 5
  simp at c5
  have hpb : ¬ pl.block = b := fun e => hpl (by rw [e]; exact h.own)
  have hgb : ¬ (0 : Nat) = b := fun e => hgl (by rw [e]; exact h.own)
  have hplw := h.mapped
  have hB : B ≤ w.heap.size := by have := h.lt b h.own; omega
  have HB := Lib.hid h.lt
  have HP := Lib.hid hp
  have H := Lib.hid h.mapped
  clear h hplw hL
  go_enter Tryd.func51, Tryd.ntmps51
  go_wp2_with fail
  have HT := H
  generalize (w.setCell ⟨b, 5, none⟩ (.map (some w.heap.size))).alloc (.map #[] 0) = w1 at *
  clear l0 l1 l2 l3 l4 l5 l6 l7 l8 l9 l10 l11 l12 l13 l14 c5 f5 hp H
  go_loopw [8] (fun i wr => ∃ k : Nat, i = .int .i64 k ∧ k ≤ 15 ∧ Hid (Tbl (Grew S w wr) B b lim d st 0 0 (firstS k) wr ∧ Only S w wr)) (fun i _ => 15 - (intOf i).toNat)
  case atStart => exact ⟨0, rfl, by omega, HT⟩
  case round =>
    obtain ⟨k, rfl, hk, hR⟩ := hrel
    have hp : wr.cell? pl = some (.pointer (some ⟨b, 0, none⟩)) := (hR.out.2.cell hplt hpl).trans HP.out
    by_cases hlt : k < 15
    · have hix := index_res k hlt
      have HO := Lib.hid hR.out.2
      go_wp2_with fail
      refine (put_any (resB k) k hR.out.1 (firstS_open hlt) (firstS_no hlt) (resB_size k hlt)).mono ?_
      rintro e w4 ⟨rfl, h4, o4⟩
      rw [firstS_put] at h4
      have HR4 := Lib.hid (show Tbl (Grew S w w4) B b lim d st 0 0 (firstS (k + 1)) w4 ∧ Only S w w4 from ⟨h4.chain HO.out.size o4.size hB HB.out, HO.out.next o4⟩)
      clear h4 o4
      go_wp2_with fail
      go_roundw
      case rel => exact ⟨k + 1, by go_num, by omega, HR4⟩
      case measure => simp [intOf]; omega
    · obtain rfl : k = 15 := by omega
      go_wp2_with fail
      go_end0
      exact ⟨rfl, hR.out⟩
end
end Go.Proofs.YtoppfhbpmmepaaaDoor.atoms
