/- The law's question that counts its questions. -/
import Derived.Test.YtghegbdnecobkaaRoom10
import Derived.Test.YtghegbdnecobkaaRoom5
namespace Go.Proofs.Ytghegbdnecobkaa.rooms
open Go.RowKit

/-- The law's keeper behind k questions. -/
structure IsKeeper (B kb : Nat) (n : Int) (xs : List Int) (k : Nat) (ak : Option Addr) (cap : Nat) (w : World) : Prop where
  blk : w.heap[kb]? = some (.cells #[.int .u64 n, .slice ak (xs.take k).length cap, .int .i64 k, .bool true] 61 (0, 0))
  row : Row 31 B ak cap (xs.take k) w
  low : B ≤ kb
  other : ∀ g, ak = some g → g.block ≠ kb

/-- The keeper's world behind its counting. -/
abbrev counted (w : World) (kb k : Nat) : World := (w.setCell ⟨kb, 3, none⟩ (.bool true)).setCell ⟨kb, 2, none⟩ (.int .i64 ((k : Int) + 1))
theorem counted_only (w : World) (kb k : Nat) : Only (· = kb) w (counted w kb k) := (Only.setCell (S := (· = kb)) w (p := ⟨kb, 3, none⟩) rfl _).same (Only.setCell (S := (· = kb)) _ (p := ⟨kb, 2, none⟩) rfl _)
theorem counted_blk {w : World} {kb k : Nat} {n : Int} {v : Value} {t : TypeId} (h : w.heap[kb]? = some (.cells #[.int .u64 n, v, .int .i64 k, .bool true] t (0, 0))) : (counted w kb k).heap[kb]? = some (.cells #[.int .u64 n, v, .int .i64 ((k : Int) + 1), .bool true] t (0, 0)) := by
  have h2 := blk_set (blk_set h 3 (.bool true)) 2 (.int .i64 ((k : Int) + 1))
  simpa using h2
theorem counted_grown {w w2 : World} {kb k : Nat} {n : Int} {v : Value} {t : TypeId} {ak : Option Addr} (h : w.heap[kb]? = some (.cells #[.int .u64 n, v, .int .i64 k, .bool true] t (0, 0))) (ho : Only (RowAt ak) (counted w kb k) w2) (hn : ∀ g, ak = some g → g.block ≠ kb) :
    w2.heap[kb]? = some (.cells #[.int .u64 n, v, .int .i64 ((k : Int) + 1), .bool true] t (0, 0)) := by
  have h1 := counted_blk h
  rw [ho.block kb (lt_of_block h1) (by rintro ⟨g, hg, e⟩; exact hn g hg e.symm)]
  exact h1

theorem asked_next {B kb : Nat} {n : Int} {xs : List Int} {k : Nat} {ak : Option Addr} {cap : Nat} {w : World} (h : IsKeeper B kb n xs k ak cap w) (hk : k < xs.length) (hl : xs.length ≤ 1048576) (hx0 : 0 ≤ xs.getD k 0) (hx1 : xs.getD k 0 < 18446744073709551616) (hn0 : 1 ≤ n) (hn1 : n ≤ 100) :
    Calls Try.prog 35 #[.pointer (some ⟨kb, 0, none⟩), .int .i64 k, .int .u64 (xs.getD k 0)] w fun e w' => e = .returned (.bool (xs.getD k 0 % n != 0)) ∧
      ∃ ak' cap', IsKeeper B kb n xs (k + 1) ak' cap' w' ∧ Only (Mine kb ak) w w' ∧ NewRow w.heap.size ak ak' := by
  obtain ⟨i0, hi, hz0, hz1, hz2⟩ := info_parts info64
  have c0 := cell_of_blk h.blk 0
  have c1 := cell_of_blk h.blk 1
  have c2 := cell_of_blk h.blk 2
  have c3 := cell_of_blk h.blk 3
  have f0 := free_of_blk h.blk 0
  have f1 := free_of_blk h.blk 1
  have f2 := free_of_blk h.blk 2
  have f3 := free_of_blk h.blk 3
  have H := Lib.hid h
  have hlen : (xs.take k).length = k := by rw [List.length_take]; omega
  generalize hx : xs.getD k 0 = x at *
  have HX := Lib.hid hx
  clear h hx
  go_enter Try.func35, Try.ntmps35
  have hrow := H.out.row.only (counted_only w kb k) H.out.other
  have hbw : B ≤ (counted w kb k).heap.size := by
    have := (counted_only w kb k).size
    have := H.out.low
    have := lt_of_block H.out.blk
    omega
  have HR := Lib.hid hrow
  have HW := Lib.hid hbw
  clear hrow hbw
  go_wp2_with (at_builtin; refine wp_append_word rfl (.tmp 33) (.tmp 35) 35 rfl B 31 i0 Try.underlying35 hi hz0 hz1 hz2 (counted w kb k) ak cap (xs.take k) x (by rw [hlen]; rfl) HR.out (by simp [counted]; rfl) (by rw [hlen]; omega) HW.out ?_; intro ak' cap' w2 hrow2 honly2 hnew2; have HB2 := Lib.hid (counted_grown H.out.blk honly2 H.out.other); have c0 := cell_of_blk HB2.out 0; have c1 := cell_of_blk HB2.out 1; have f0 := free_of_blk HB2.out 0; have f1 := free_of_blk HB2.out 1)
  go_ret
  have o3 : Only (· = kb) w2 (w2.setCell ⟨kb, 1, none⟩ (.slice ak' (k + 1) cap')) := Only.setCell (S := (· = kb)) w2 (p := ⟨kb, 1, none⟩) rfl _
  have hb3 := blk_set HB2.out 1 (.slice ak' (k + 1) cap')
  have hl2 : (xs.take (k + 1)).length = k + 1 := by rw [List.length_take]; omega
  have hoth : ∀ g, ak' = some g → g.block ≠ kb := by
    intro g hg
    rcases hnew2 g hg with h1 | h1
    · exact H.out.other g h1
    · have := lt_of_block (counted_blk H.out.blk)
      omega
  rw [← HX.out, take_snoc xs k hk] at hrow2
  refine ⟨by first | rfl | rw [HX.out], ak', cap', ⟨?_, hrow2.only o3 hoth, H.out.low, hoth⟩, ((counted_only w kb k).struct.same honly2.rowAt).same o3.struct, hnew2.of_only (counted_only w kb k)⟩
  rw [hl2]
  simpa using hb3

/-- The keeper, at the place k. -/
def KInv (B kb : Nat) (n : Int) (xs : List Int) (k : Nat) (ak : Option Addr) (w : World) : Prop := ∃ cap, IsKeeper B kb n xs k ak cap w
theorem enters_keep : ∀ args w, (callFunc 35 args).run Try.prog w = .ok (.enter 35 args) w := by
  intro args w
  rfl
theorem asks_keeper {B kb : Nat} {n : Int} {xs : List Int} (hl : xs.length ≤ 1048576) (hx : ∀ x ∈ xs, 0 ≤ x ∧ x < 18446744073709551616) (hn0 : 1 ≤ n) (hn1 : n ≤ 100) :
    Asks 35 #[.pointer (some ⟨kb, 0, none⟩)] (· = kb) (fun x => x % n != 0) xs (KInv B kb n xs) := by
  refine ⟨fun k ak wr hk ⟨cap, hI⟩ => ?_, fun k ak w w' S ⟨cap, hI⟩ ho hS => ⟨cap, ?_⟩, fun k ak w ⟨cap, hI⟩ j hj => ?_⟩
  · have hm : xs.getD k 0 ∈ xs := by
      simp [List.getD, List.getElem?_eq_getElem hk]
    refine (asked_next hI hk hl (hx _ hm).1 (hx _ hm).2 hn0 hn1).mono ?_
    rintro e w' ⟨rfl, ak', cap', h1, h2, h3⟩
    exact ⟨rfl, ak', ⟨cap', h1⟩, h2, h3⟩
  · refine ⟨?_, hI.row.only ho (fun g hg => hS _ (.inr ⟨g, hg, rfl⟩)), hI.low, hI.other⟩
    rw [ho.block kb (lt_of_block hI.blk) (hS kb (.inl rfl))]
    exact hI.blk
  · rcases hj with rfl | ⟨g, hg, rfl⟩
    · exact lt_of_block hI.blk
    · exact (hI.row.head g hg).2.2
end Go.Proofs.Ytghegbdnecobkaa.rooms
