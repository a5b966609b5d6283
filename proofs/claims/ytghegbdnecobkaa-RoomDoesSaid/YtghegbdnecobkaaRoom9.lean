/- Contracts of the law's own counting room. -/
import Derived.Test.YtghegbdnecobkaaRoom7
namespace Go.Proofs.Ytghegbdnecobkaa.rooms
open Go.RowKit

/-- A counting room. -/
abbrev RefP (B b : Nat) (ao : Option Addr) (cap : Nat) (xs : List Int) (lim most : Int) (w : World) : Prop := IsRoom 31 37 B b ao cap xs lim most w

theorem rnew_no (n : Int) (w : World) (h : n < 0 ∨ 1048576 < n) : Calls Try.prog 9 #[.int .i64 n] w fun e w' => e = .returned (.pointer none) ∧ w = w' := by
  by_cases h0 : n < 0
  · clear h
    go_enter Try.func9, Try.ntmps9
    go_wp2
    go_ret
    exact ⟨rfl, rfl⟩
  · have h1 : 1048576 < n := by omega
    clear h
    go_enter Try.func9, Try.ntmps9
    go_wp2
    go_ret
    exact ⟨rfl, rfl⟩
theorem rnew_yes (n : Int) (w : World) (h0 : 0 ≤ n) (h1 : n ≤ 1048576) : Calls Try.prog 9 #[.int .i64 n] w fun e w' => ∃ b, e = .returned (.pointer (some ⟨b, 0, none⟩)) ∧ RefP w.heap.size b none 0 [] n 0 w' ∧ Only (fun _ => False) w w' ∧ b = w.heap.size := by
  go_enter Try.func9, Try.ntmps9
  go_wp2
  go_ret
  exact ⟨_, rfl, ⟨heap_alloc_new w _, World.ownsRow_nil _ _ _ _, Nat.le_refl _, fun g hg => by cases hg⟩, Only.alloc _ _ _, rfl⟩

theorem note_any {b : Nat} {ao : Option Addr} {n cap : Nat} {lim most : Int} {w : World} (h : w.heap[b]? = some (.cells #[.slice ao n cap, .int .i64 lim, .int .i64 most] 37 (0, 0))) :
    Calls Try.prog 34 #[.pointer (some ⟨b, 0, none⟩)] w fun e w' => e = .returned (.tuple #[]) ∧ Only (· = b) w w' ∧ w'.heap[b]? = some (.cells #[.slice ao n cap, .int .i64 lim, .int .i64 (max most n)] 37 (0, 0)) := by
  have c0 := cell_of_blk h 0
  have c2 := cell_of_blk h 2
  have f2 := free_of_blk h 2
  have H := Lib.hid h
  clear h
  by_cases hm : most < (n : Int)
  · have hmx : max most (n : Int) = n := by omega
    rw [hmx]
    clear hmx
    go_enter Try.func34, Try.ntmps34
    go_wp2_with fail
    go_quiet (fail)
    have ho := Only.drewN (S := (· = b)) w nq
    have H1 := Lib.hid (show (w.drewN nq).heap[b]? = _ from H.out)
    generalize w.drewN nq = w1 at *
    have c0 := cell_of_blk H1.out 0
    have c2 := cell_of_blk H1.out 2
    have f2 := free_of_blk H1.out 2
    go_wp2_with fail
    go_end0
    exact ⟨rfl, ho.same (Only.setCell (S := (· = b)) w1 (p := ⟨b, 2, none⟩) rfl _), blk_set H1.out 2 _⟩
  · have hmx : max most (n : Int) = most := by omega
    rw [hmx]
    clear hmx
    go_enter Try.func34, Try.ntmps34
    go_wp2_with fail
    go_quiet (fail)
    have ho := Only.drewN (S := (· = b)) w nq
    have H1 := Lib.hid (show (w.drewN nq).heap[b]? = _ from H.out)
    generalize w.drewN nq = w1 at *
    go_wp2_with fail
    go_end0
    exact ⟨rfl, ho, H1.out⟩
theorem ref_blk_grown {B b : Nat} {ao : Option Addr} {cap : Nat} {xs : List Int} {lim most : Int} {w w' : World} (h : RefP B b ao cap xs lim most w) (ho : Only (RowAt ao) w w') :
    w'.heap[b]? = some (.cells #[.slice ao xs.length cap, .int .i64 lim, .int .i64 most] 37 (0, 0)) := by
  rw [ho.block b h.lt (by rintro ⟨g, hg, e⟩; exact h.other g hg e.symm)]
  exact h.blk
theorem rpush_full {B b : Nat} {ao : Option Addr} {cap : Nat} {xs : List Int} {lim most x : Int} {w : World} (h : RefP B b ao cap xs lim most w) (hf : lim ≤ (xs.length : Int)) :
    Calls Try.prog 26 #[.pointer (some ⟨b, 0, none⟩), .int .u64 x] w fun e w' => e = .returned (.int .i64 2) ∧ Only (fun _ => False) w w' := by
  have c0 := h.c0
  have c1 := h.c1
  clear h
  go_enter Try.func26, Try.ntmps26
  go_wp2_with fail
  go_quiet (fail)
  go_wp2_with fail
  go_ret
  exact ⟨rfl, Only.drewN _ _ _⟩
theorem rpush_some {B b : Nat} {ao : Option Addr} {cap : Nat} {xs : List Int} {lim most x : Int} {w : World} (h : RefP B b ao cap xs lim most w) (hf : (xs.length : Int) < lim) (hl : lim ≤ 1048576) :
    Calls Try.prog 26 #[.pointer (some ⟨b, 0, none⟩), .int .u64 x] w fun e w' => e = .returned (.int .i64 0) ∧
      ∃ ao' cap', RefP B b ao' cap' (xs ++ [x]) lim (max most ((xs ++ [x]).length : Nat)) w' ∧ Only (Mine b ao) w w' ∧ NewRow w.heap.size ao ao' := by
  obtain ⟨i0, hi, hz0, hz1, hz2⟩ := info_parts info64
  have c0 := h.c0
  have c1 := h.c1
  have H := Lib.hid h
  clear h
  go_enter Try.func26, Try.ntmps26
  go_wp2_with fail
  go_quiet (fail)
  have ho := Only.drewN (fun _ => False) w nq
  have hr1 := H.out.drewN nq
  generalize w.drewN nq = w1 at *
  have c0 := hr1.c0
  have f0 := hr1.fz 0
  have H1 := Lib.hid hr1
  clear hr1
  go_wp2_with (at_builtin; refine wp_append_word rfl (.tmp 19) (.tmp 21) 35 rfl B 31 i0 Try.underlying35 hi hz0 hz1 hz2 w1 ao cap xs x rfl H1.out.row rfl (by omega) (Nat.le_trans H1.out.low (Nat.le_of_lt H1.out.lt)) ?_; intro ao' cap' w2 hrow2 honly2 hnew2; have HB2 := Lib.hid (ref_blk_grown H1.out honly2); have c0 := cell_of_blk HB2.out 0; have f0 := free_of_blk HB2.out 0)
  have hl1 : (xs ++ [x]).length = xs.length + 1 := by simp
  rw [← hl1]
  have HS2 := Lib.hid (blk_set HB2.out 0 (.slice ao' (xs ++ [x]).length cap'))
  have o2 : Only (· = b) w2 (w2.setCell ⟨b, 0, none⟩ (.slice ao' (xs ++ [x]).length cap')) := Only.setCell (S := (· = b)) w2 (p := ⟨b, 0, none⟩) rfl _
  have O2 := Lib.hid o2
  clear o2 c0 f0 HB2
  generalize w2.setCell ⟨b, 0, none⟩ (.slice ao' (xs ++ [x]).length cap') = w3 at *
  refine (note_any HS2.out).mono ?_
  rintro e w4 ⟨rfl, ho4, hb4⟩
  have HB4 := Lib.hid hb4
  clear hb4
  go_wp2_with fail
  go_ret
  have hoth := H1.out.other_new H1.out.lt hnew2
  exact ⟨rfl, ao', cap', IsRoom.behind HB4.out hrow2 (O2.out.same ho4) H1.out.low hoth, (((ho.no (Mine b ao)).same honly2.rowAt).same O2.out.struct).same ho4.struct, hnew2.of_only ho⟩
theorem rpop_no {B b : Nat} {ao : Option Addr} {cap : Nat} {xs : List Int} {lim most : Int} {w : World} (h : RefP B b ao cap xs lim most w) (hn : xs = []) :
    Calls Try.prog 27 #[.pointer (some ⟨b, 0, none⟩)] w fun e w' => e = .returned (.tuple #[.int .u64 0, .int .i64 4]) ∧ w = w' := by
  subst hn
  have c0 := h.c0
  clear h
  go_enter Try.func27, Try.ntmps27
  go_wp2_with fail
  go_ret2
  exact ⟨rfl, rfl⟩
theorem ref_cut {B b : Nat} {ao : Option Addr} {cap : Nat} {xs : List Int} {lim most : Int} {w : World} {n : Nat} (h : RefP B b ao cap xs lim most w) (hn : n ≤ xs.length) :
    RefP B b ao cap (xs.take n) lim most (w.setCell ⟨b, 0, none⟩ (.slice ao n cap)) ∧ Only (· = b) w (w.setCell ⟨b, 0, none⟩ (.slice ao n cap)) := by
  have ho : Only (· = b) w (w.setCell ⟨b, 0, none⟩ (.slice ao n cap)) := Only.setCell (S := (· = b)) w (p := ⟨b, 0, none⟩) rfl _
  have hl : (xs.take n).length = n := by rw [List.length_take]; omega
  refine ⟨IsRoom.behind ?_ (Row.take h.row n hn) ho h.low h.other, ho⟩
  rw [hl]
  exact blk_set h.blk 0 _
theorem rpop_yes {B b : Nat} {ao : Option Addr} {cap : Nat} {xs : List Int} {lim most : Int} {w : World} (n : Nat) (h : RefP B b ao cap xs lim most w) (hn : xs.length = n + 1) (hb : xs.length ≤ 1048576) :
    Calls Try.prog 27 #[.pointer (some ⟨b, 0, none⟩)] w fun e w' => e = .returned (.tuple #[.int .u64 (xs.getD n 0), .int .i64 0]) ∧ RefP B b ao cap (xs.take n) lim most w' ∧ Only (· = b) w w' := by
  obtain ⟨g, rfl, hc, hf⟩ := h.at n (by omega)
  have c0 := h.c0
  have f0 := h.fz 0
  have hcap := h.cap_ge
  have hcap2 := h.cap_le
  have hcut := ref_cut h (show n ≤ xs.length by omega)
  unfold maxLen at hcap2
  generalize xs.getD n 0 = x at hc
  rw [hn] at c0 hcap
  have H := Lib.hid hcut
  clear h hf hcut
  have HN := Lib.hid hn
  clear hn
  go_enter Try.func27, Try.ntmps27
  go_wp2_with fail
  go_ret2
  exact ⟨rfl, H.out⟩
theorem rcut_no {B b : Nat} {ao : Option Addr} {cap : Nat} {xs : List Int} {lim most : Int} {w : World} (n : Int) (h : RefP B b ao cap xs lim most w) (hn : n < 0 ∨ (xs.length : Int) < n) :
    Calls Try.prog 28 #[.pointer (some ⟨b, 0, none⟩), .int .i64 n] w fun e w' => e = .returned (.int .i64 1) ∧ w = w' := by
  have c0 := h.c0
  clear h
  by_cases h0 : n < 0
  · clear hn
    go_enter Try.func28, Try.ntmps28
    go_wp2_with fail
    go_ret
    exact ⟨rfl, rfl⟩
  · have h1 : (xs.length : Int) < n := by omega
    clear hn
    go_enter Try.func28, Try.ntmps28
    go_wp2_with fail
    go_ret
    exact ⟨rfl, rfl⟩
theorem rcut_yes {B b : Nat} {ao : Option Addr} {cap : Nat} {xs : List Int} {lim most : Int} {w : World} (n : Nat) (h : RefP B b ao cap xs lim most w) (hn : n ≤ xs.length) (hb : xs.length ≤ 1048576) :
    Calls Try.prog 28 #[.pointer (some ⟨b, 0, none⟩), .int .i64 n] w fun e w' => e = .returned (.int .i64 0) ∧ RefP B b ao cap (xs.take n) lim most w' ∧ Only (· = b) w w' := by
  have c0 := h.c0
  have f0 := h.fz 0
  have hcap := h.cap_ge
  have hcap2 := h.cap_le
  unfold maxLen at hcap2
  have H := Lib.hid h
  clear h
  go_enter Try.func28, Try.ntmps28
  go_wp2_with fail
  go_ret
  exact ⟨rfl, ref_cut H.out hn⟩
theorem rgrow_low {b : Nat} {w : World} (n : Int) (hn : n < 0) :
    Calls Try.prog 29 #[.pointer (some ⟨b, 0, none⟩), .int .i64 n] w fun e w' => e = .returned (.int .i64 1) ∧ w = w' := by
  go_enter Try.func29, Try.ntmps29
  go_wp2_with fail
  go_ret
  exact ⟨rfl, rfl⟩
theorem rgrow_full {B b : Nat} {ao : Option Addr} {cap : Nat} {xs : List Int} {lim most : Int} {w : World} (n : Int) (h : RefP B b ao cap xs lim most w) (hn : 0 ≤ n) (hf : lim - (xs.length : Int) < n) (hl : 0 ≤ lim) (hl2 : lim ≤ 1048576) (hb : xs.length ≤ 1048576) :
    Calls Try.prog 29 #[.pointer (some ⟨b, 0, none⟩), .int .i64 n] w fun e w' => e = .returned (.int .i64 2) ∧ Only (fun _ => False) w w' := by
  have c0 := h.c0
  have c1 := h.c1
  clear h
  go_enter Try.func29, Try.ntmps29
  go_wp2_with fail
  go_quiet (fail)
  go_wp2_with fail
  go_ret
  exact ⟨rfl, Only.drewN _ _ _⟩
end Go.Proofs.Ytghegbdnecobkaa.rooms
