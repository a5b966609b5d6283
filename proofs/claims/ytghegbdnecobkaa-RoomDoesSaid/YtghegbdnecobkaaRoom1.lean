/- Contracts of package room's calls: New, the plain askings, hold, Push. -/
import Derived.Test.YtghegbdnecobkaaRoomLib
import Derived.Test.YtghegbdnecobkaaProg
import Derived.WalkLawsBesides
import Derived.WalkSpells
import Derived.Outline
import Derived.Lib.Hide
import Derived.Deep.QuietTactic
import Derived.BigQuiet
import Derived.ArgAppend
namespace Go.Proofs.Ytghegbdnecobkaa.rooms
open Go.RowKit

/-- A room of the program. -/
abbrev RoomP (B b : Nat) (ao : Option Addr) (cap : Nat) (xs : List Int) (lim most : Int) (w : World) : Prop := IsRoom 31 53 B b ao cap xs lim most w

theorem new_no (n : Int) (w : World) (h : n < 0 ∨ 1048576 < n) : Calls Try.prog 8 #[.int .i64 n] w fun e w' => e = .returned (.tuple #[.pointer none, .int .i64 1]) ∧ w = w' := by
  by_cases h0 : n < 0
  · clear h
    go_enter Try.func8, Try.ntmps8
    go_wp2
    go_ret2
    exact ⟨rfl, rfl⟩
  · have h1 : 1048576 < n := by omega
    clear h
    go_enter Try.func8, Try.ntmps8
    go_wp2
    go_ret2
    exact ⟨rfl, rfl⟩
theorem new_yes (n : Int) (w : World) (h0 : 0 ≤ n) (h1 : n ≤ 1048576) : Calls Try.prog 8 #[.int .i64 n] w fun e w' => ∃ b, e = .returned (.tuple #[.pointer (some ⟨b, 0, none⟩), .int .i64 0]) ∧ RoomP w.heap.size b none 0 [] n 0 w' ∧ Only (fun _ => False) w w' ∧ b = w.heap.size := by
  go_enter Try.func8, Try.ntmps8
  go_wp2
  go_ret2
  exact ⟨_, rfl, ⟨heap_alloc_new w _, World.ownsRow_nil _ _ _ _, Nat.le_refl _, fun g hg => by cases hg⟩, Only.alloc _ _ _, rfl⟩
theorem len_any {B b : Nat} {ao : Option Addr} {cap : Nat} {xs : List Int} {lim most : Int} {w : World} (h : RoomP B b ao cap xs lim most w) :
    Calls Try.prog 12 #[.pointer (some ⟨b, 0, none⟩)] w fun e w' => e = .returned (.int .i64 xs.length) ∧ w = w' := by
  have c0 := h.c0
  clear h
  go_enter Try.func12, Try.ntmps12
  go_wp2
  go_ret
  exact ⟨rfl, rfl⟩
theorem blk_set {w : World} {b : Nat} {cs : Array Value} {t : TypeId} (h : w.heap[b]? = some (.cells cs t (0, 0))) (j : Nat) (u : Value) : (w.setCell ⟨b, j, none⟩ u).heap[b]? = some (.cells (cs.setIfInBounds j u) t (0, 0)) := heap_setCell_same w b j cs t u h
theorem hold_any {b : Nat} {v0 : Value} {ao : Option Addr} {n cap : Nat} {lim most : Int} {w : World} (h : w.heap[b]? = some (.cells #[v0, .int .i64 lim, .int .i64 most] 53 (0, 0))) :
    Calls Try.prog 31 #[.pointer (some ⟨b, 0, none⟩), .slice ao n cap] w fun e w' => e = .returned (.tuple #[]) ∧ Only (· = b) w w' ∧ w'.heap[b]? = some (.cells #[.slice ao n cap, .int .i64 lim, .int .i64 (max most n)] 53 (0, 0)) := by
  have c0 := cell_of_blk h 0
  have c1 := cell_of_blk h 1
  have c2 := cell_of_blk h 2
  have f0 := free_of_blk h 0
  have f2 := free_of_blk h 2
  have H := Lib.hid h
  clear h
  go_enter Try.func31, Try.ntmps31
  go_wp2
  · have hmx : max most (n : Int) = n := by
      have : most < (n : Int) := by assumption
      omega
    go_end0
    rw [hmx]
    exact ⟨rfl, (Only.setCell (S := (· = b)) w (p := ⟨b, 0, none⟩) rfl _).same (Only.setCell (S := (· = b)) _ (p := ⟨b, 2, none⟩) rfl _), blk_set (blk_set H.out 0 _) 2 _⟩
  · have hmx : max most (n : Int) = most := by
      have : (n : Int) ≤ most := by assumption
      omega
    go_end0
    rw [hmx]
    exact ⟨rfl, (Only.setCell (S := (· = b)) w (p := ⟨b, 0, none⟩) rfl _).same (Only.setCell (S := (· = b)) _ (p := ⟨b, 2, none⟩) rfl _), blk_set (blk_set H.out 0 _) 2 _⟩

theorem push_full {B b : Nat} {ao : Option Addr} {cap : Nat} {xs : List Int} {lim most x : Int} {w : World} (h : RoomP B b ao cap xs lim most w) (hf : lim ≤ (xs.length : Int)) :
    Calls Try.prog 17 #[.pointer (some ⟨b, 0, none⟩), .int .u64 x] w fun e w' => e = .returned (.int .i64 2) ∧ Only (fun _ => False) w w' := by
  have c0 := h.c0
  have c1 := h.c1
  clear h
  go_enter Try.func17, Try.ntmps17
  go_wp2
  go_quiet (fail)
  go_wp2
  go_ret
  exact ⟨rfl, Only.drewN _ _ _⟩

theorem info64 : (Try.prog.info? 31).map (fun i => (i.zero, i.size, i.bytes)) = some (some (.int .u64 0), 1, 8) := by kernel_rfl

theorem push_some {B b : Nat} {ao : Option Addr} {cap : Nat} {xs : List Int} {lim most x : Int} {w : World} (h : RoomP B b ao cap xs lim most w) (hf : (xs.length : Int) < lim) (hl : lim ≤ 1048576) :
    Calls Try.prog 17 #[.pointer (some ⟨b, 0, none⟩), .int .u64 x] w fun e w' => e = .returned (.int .i64 0) ∧
      ∃ ao' cap', RoomP B b ao' cap' (xs ++ [x]) lim (max most ((xs ++ [x]).length : Nat)) w' ∧ Only (Mine b ao) w w' ∧ NewRow w.heap.size ao ao' := by
  obtain ⟨i0, hi, hz0, hz1, hz2⟩ := info_parts info64
  have c0 := h.c0
  have c1 := h.c1
  have H := Lib.hid h
  clear h
  go_enter Try.func17, Try.ntmps17
  go_wp2
  go_quiet (fail)
  have ho := Only.drewN (fun _ => False) w nq
  have hr1 := H.out.drewN nq
  generalize w.drewN nq = w1 at *
  have c0 := hr1.c0
  have H1 := Lib.hid hr1
  clear hr1
  go_wp2_with (at_builtin; refine wp_append_word rfl (.tmp 21) (.tmp 23) 35 rfl B 31 i0 Try.underlying35 hi hz0 hz1 hz2 w1 ao cap xs x rfl H1.out.row rfl (by omega) (Nat.le_trans H1.out.low (Nat.le_of_lt H1.out.lt)) ?_; intro ao' cap' w2 hrow2 honly2 hnew2)
  have hb2 : w2.heap[b]? = some (.cells #[.slice ao xs.length cap, .int .i64 lim, .int .i64 most] 53 (0, 0)) := by
    rw [honly2.block b H1.out.lt (by rintro ⟨g, hg, e⟩; exact H1.out.other g hg e.symm)]
    exact H1.out.blk
  have HB2 := Lib.hid hb2
  clear hb2
  refine (hold_any HB2.out).mono ?_
  rintro e w3 ⟨rfl, ho3, hb3⟩
  have HB3 := Lib.hid hb3
  clear hb3
  go_wp2_with fail
  go_ret
  have hl1 : (xs ++ [x]).length = xs.length + 1 := by simp
  have hblk := HB3.out
  rw [← hl1] at hblk
  have hoth := H1.out.other_new H1.out.lt hnew2
  exact ⟨rfl, ao', cap', IsRoom.behind hblk hrow2 ho3 H1.out.low hoth, ((ho.no (Mine b ao)).same honly2.rowAt).same ho3.struct, hnew2.of_only ho⟩

theorem limit_any {B b : Nat} {ao : Option Addr} {cap : Nat} {xs : List Int} {lim most : Int} {w : World} (h : RoomP B b ao cap xs lim most w) :
    Calls Try.prog 14 #[.pointer (some ⟨b, 0, none⟩)] w fun e w' => e = .returned (.int .i64 lim) ∧ w = w' := by
  have c1 := h.c1
  clear h
  go_enter Try.func14, Try.ntmps14
  go_wp2
  go_ret
  exact ⟨rfl, rfl⟩
theorem most_any {B b : Nat} {ao : Option Addr} {cap : Nat} {xs : List Int} {lim most : Int} {w : World} (h : RoomP B b ao cap xs lim most w) :
    Calls Try.prog 13 #[.pointer (some ⟨b, 0, none⟩)] w fun e w' => e = .returned (.int .i64 most) ∧ w = w' := by
  have c2 := h.c2
  clear h
  go_enter Try.func13, Try.ntmps13
  go_wp2
  go_ret
  exact ⟨rfl, rfl⟩
theorem has_any {B b : Nat} {ao : Option Addr} {cap : Nat} {xs : List Int} {lim most : Int} {w : World} (i : Int) (h : RoomP B b ao cap xs lim most w) :
    Calls Try.prog 32 #[.pointer (some ⟨b, 0, none⟩), .int .i64 i] w fun e w' => e = .returned (.bool (hasB xs.length i)) ∧ w = w' := by
  have c0 := h.c0
  clear h
  by_cases h0 : 0 ≤ i
  · have HD : Hid (decide (i < (xs.length : Int)) = hasB xs.length i) := by
      show decide (i < (xs.length : Int)) = hasB xs.length i
      simp [hasB, h0]
    go_enter Try.func32, Try.ntmps32
    go_wp2
    go_ret
    refine ⟨?_, rfl⟩
    rw [← HD.out]
    rfl
  · have HD : Hid (false = hasB xs.length i) := by
      show false = hasB xs.length i
      simp [hasB, h0]
    go_enter Try.func32, Try.ntmps32
    go_wp2
    go_ret
    refine ⟨?_, rfl⟩
    rw [← HD.out]
    rfl
theorem get_no {B b : Nat} {ao : Option Addr} {cap : Nat} {xs : List Int} {lim most : Int} {w : World} (i : Int) (h : RoomP B b ao cap xs lim most w) (hi : ¬ (0 ≤ i ∧ i < (xs.length : Int))) :
    Calls Try.prog 19 #[.pointer (some ⟨b, 0, none⟩), .int .i64 i] w fun e w' => e = .returned (.tuple #[.int .u64 0, .int .i64 4]) ∧ w = w' := by
  have hd := hasB_no hi
  have HD := Lib.hid hd
  have H := Lib.hid h
  clear h hi hd
  go_enter Try.func19, Try.ntmps19
  go_wp2_with fail
  refine (has_any i H.out).mono ?_
  rintro e w1 ⟨rfl, rfl⟩
  rw [HD.out]
  go_wp2_with fail
  go_ret2
  exact ⟨rfl, rfl⟩
theorem get_yes {B b : Nat} {ao : Option Addr} {cap : Nat} {xs : List Int} {lim most : Int} {w : World} (i : Nat) (h : RoomP B b ao cap xs lim most w) (hi : i < xs.length) (hb : xs.length ≤ 1048576) :
    Calls Try.prog 19 #[.pointer (some ⟨b, 0, none⟩), .int .i64 i] w fun e w' => e = .returned (.tuple #[.int .u64 (xs.getD i 0), .int .i64 0]) ∧ w = w' := by
  obtain ⟨g, rfl, hc, hf⟩ := h.at i hi
  have c0 := h.c0
  have hd : hasB xs.length (i : Int) = true := hasB_yes (by omega) (by omega)
  have HD := Lib.hid hd
  have H := Lib.hid h
  generalize hx : xs.getD i 0 = x at hc
  clear h hd hx hf
  go_enter Try.func19, Try.ntmps19
  go_wp2_with fail
  refine (has_any i H.out).mono ?_
  rintro e w1 ⟨rfl, rfl⟩
  rw [HD.out]
  go_wp2_with fail
  go_ret2
  exact ⟨rfl, rfl⟩
theorem set_no {B b : Nat} {ao : Option Addr} {cap : Nat} {xs : List Int} {lim most : Int} {w : World} (i x : Int) (h : RoomP B b ao cap xs lim most w) (hi : ¬ (0 ≤ i ∧ i < (xs.length : Int))) :
    Calls Try.prog 20 #[.pointer (some ⟨b, 0, none⟩), .int .i64 i, .int .u64 x] w fun e w' => e = .returned (.int .i64 4) ∧ w = w' := by
  have hd := hasB_no hi
  have HD := Lib.hid hd
  have H := Lib.hid h
  clear h hi hd
  go_enter Try.func20, Try.ntmps20
  go_wp2_with fail
  refine (has_any i H.out).mono ?_
  rintro e w1 ⟨rfl, rfl⟩
  rw [HD.out]
  go_wp2_with fail
  go_ret
  exact ⟨rfl, rfl⟩
theorem set_yes {B b : Nat} {ao : Option Addr} {cap : Nat} {xs : List Int} {lim most : Int} {w : World} (i : Nat) (x : Int) (h : RoomP B b ao cap xs lim most w) (hi : i < xs.length) (hb : xs.length ≤ 1048576) :
    Calls Try.prog 20 #[.pointer (some ⟨b, 0, none⟩), .int .i64 i, .int .u64 x] w fun e w' => e = .returned (.int .i64 0) ∧ RoomP B b ao cap (xs.set i x) lim most w' ∧ Only (RowAt ao) w w' := by
  obtain ⟨g, rfl, hc, hf⟩ := h.at i hi
  have c0 := h.c0
  have hd : hasB xs.length (i : Int) = true := hasB_yes (by omega) (by omega)
  have HD := Lib.hid hd
  have H := Lib.hid h
  generalize xs.getD i 0 = x0 at hc
  clear h hd
  go_enter Try.func20, Try.ntmps20
  go_wp2_with fail
  refine (has_any i H.out).mono ?_
  rintro e w1 ⟨rfl, rfl⟩
  rw [HD.out]
  go_wp2_with fail
  go_ret
  exact ⟨rfl, H.out.stored i x⟩

theorem room_cut {B b : Nat} {ao : Option Addr} {cap : Nat} {xs : List Int} {lim most : Int} {w : World} {n : Nat} (h : RoomP B b ao cap xs lim most w) (hn : n ≤ xs.length) :
    RoomP B b ao cap (xs.take n) lim most (w.setCell ⟨b, 0, none⟩ (.slice ao n cap)) ∧ Only (· = b) w (w.setCell ⟨b, 0, none⟩ (.slice ao n cap)) := by
  have ho : Only (· = b) w (w.setCell ⟨b, 0, none⟩ (.slice ao n cap)) := Only.setCell (S := (· = b)) w (p := ⟨b, 0, none⟩) rfl _
  have hl : (xs.take n).length = n := by rw [List.length_take]; omega
  refine ⟨IsRoom.behind ?_ (Row.take h.row n hn) ho h.low h.other, ho⟩
  rw [hl]
  exact blk_set h.blk 0 _
theorem cut_no {B b : Nat} {ao : Option Addr} {cap : Nat} {xs : List Int} {lim most : Int} {w : World} (n : Int) (h : RoomP B b ao cap xs lim most w) (hn : n < 0 ∨ (xs.length : Int) < n) :
    Calls Try.prog 21 #[.pointer (some ⟨b, 0, none⟩), .int .i64 n] w fun e w' => e = .returned (.int .i64 1) ∧ w = w' := by
  have c0 := h.c0
  clear h
  by_cases h0 : n < 0
  · clear hn
    go_enter Try.func21, Try.ntmps21
    go_wp2
    go_ret
    exact ⟨rfl, rfl⟩
  · have h1 : (xs.length : Int) < n := by omega
    clear hn
    go_enter Try.func21, Try.ntmps21
    go_wp2
    go_ret
    exact ⟨rfl, rfl⟩
theorem cut_yes {B b : Nat} {ao : Option Addr} {cap : Nat} {xs : List Int} {lim most : Int} {w : World} (n : Nat) (h : RoomP B b ao cap xs lim most w) (hn : n ≤ xs.length) (hb : xs.length ≤ 1048576) :
    Calls Try.prog 21 #[.pointer (some ⟨b, 0, none⟩), .int .i64 n] w fun e w' => e = .returned (.int .i64 0) ∧ RoomP B b ao cap (xs.take n) lim most w' ∧ Only (· = b) w w' := by
  have c0 := h.c0
  have f0 := h.fz 0
  have hcap := h.cap_ge
  have hcap2 := h.cap_le
  unfold maxLen at hcap2
  have H := Lib.hid h
  clear h
  go_enter Try.func21, Try.ntmps21
  go_wp2
  go_ret
  exact ⟨rfl, room_cut H.out hn⟩

theorem pop_no {B b : Nat} {ao : Option Addr} {cap : Nat} {xs : List Int} {lim most : Int} {w : World} (h : RoomP B b ao cap xs lim most w) (hn : xs = []) :
    Calls Try.prog 18 #[.pointer (some ⟨b, 0, none⟩)] w fun e w' => e = .returned (.tuple #[.int .u64 0, .int .i64 4]) ∧ w = w' := by
  subst hn
  have c0 := h.c0
  clear h
  go_enter Try.func18, Try.ntmps18
  go_wp2
  go_ret2
  exact ⟨rfl, rfl⟩
theorem pop_yes {B b : Nat} {ao : Option Addr} {cap : Nat} {xs : List Int} {lim most : Int} {w : World} (n : Nat) (h : RoomP B b ao cap xs lim most w) (hn : xs.length = n + 1) (hb : xs.length ≤ 1048576) :
    Calls Try.prog 18 #[.pointer (some ⟨b, 0, none⟩)] w fun e w' => e = .returned (.tuple #[.int .u64 (xs.getD n 0), .int .i64 0]) ∧ RoomP B b ao cap (xs.take n) lim most w' ∧ Only (· = b) w w' := by
  obtain ⟨g, rfl, hc, hf⟩ := h.at n (by omega)
  have c0 := h.c0
  have f0 := h.fz 0
  have hcap := h.cap_ge
  have hcap2 := h.cap_le
  have hcut := room_cut h (show n ≤ xs.length by omega)
  unfold maxLen at hcap2
  generalize xs.getD n 0 = x at hc
  rw [hn] at c0 hcap
  have H := Lib.hid hcut
  clear h hf hcut
  have HN := Lib.hid hn
  clear hn
  go_enter Try.func18, Try.ntmps18
  go_wp2
  go_ret2
  exact ⟨rfl, H.out⟩
end Go.Proofs.Ytghegbdnecobkaa.rooms
