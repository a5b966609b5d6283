
/- Contracts of package room's calls: New, the plain askings, hold, Push. -/
import Derived.Test.YthfilpacmllhpaaRoomLib
import Derived.Test.YthfilpacmllhpaaProg
import Derived.WalkLawsBesides
import Derived.WalkSpells
import Derived.Outline
import Derived.Lib.Hide
import Derived.Deep.QuietTactic
import Derived.BigQuiet
import Derived.ArgAppend
namespace Go.Proofs.Ythfilpacmllhpaa.rooms
open Go.RowKit

/-- A room of the program. -/
abbrev RoomP (B b : Nat) (ao : Option Addr) (cap : Nat) (xs : List Int) (lim most : Int) (w : World) : Prop := IsRoom 35 98 B b ao cap xs lim most w

theorem new_no (n : Int) (w : World) (h : n < 0 ∨ 1048576 < n) : Calls Try.prog 31 #[.int .i64 n] w fun e w' => e = .returned (.tuple #[.pointer none, .int .i64 1]) ∧ w = w' := by
  by_cases h0 : n < 0
  · clear h
    go_enter Try.func31, Try.ntmps31
    go_wp2
    go_ret2
    exact ⟨rfl, rfl⟩
  · have h1 : 1048576 < n := by omega
    clear h
    go_enter Try.func31, Try.ntmps31
    go_wp2
    go_ret2
    exact ⟨rfl, rfl⟩
theorem new_yes (n : Int) (w : World) (h0 : 0 ≤ n) (h1 : n ≤ 1048576) : Calls Try.prog 31 #[.int .i64 n] w fun e w' => ∃ b, e = .returned (.tuple #[.pointer (some ⟨b, 0, none⟩), .int .i64 0]) ∧ RoomP w.heap.size b none 0 [] n 0 w' ∧ Only (fun _ => False) w w' ∧ b = w.heap.size := by
  go_enter Try.func31, Try.ntmps31
  go_wp2
  go_ret2
  exact ⟨_, rfl, ⟨heap_alloc_new w _, World.ownsRow_nil _ _ _ _, Nat.le_refl _, fun g hg => by cases hg⟩, Only.alloc _ _ _, rfl⟩
theorem blk_set {w : World} {b : Nat} {cs : Array Value} {t : TypeId} (h : w.heap[b]? = some (.cells cs t (0, 0))) (j : Nat) (u : Value) : (w.setCell ⟨b, j, none⟩ u).heap[b]? = some (.cells (cs.setIfInBounds j u) t (0, 0)) := heap_setCell_same w b j cs t u h
theorem hold_any {b : Nat} {v0 : Value} {ao : Option Addr} {n cap : Nat} {lim most : Int} {w : World} (h : w.heap[b]? = some (.cells #[v0, .int .i64 lim, .int .i64 most] 98 (0, 0))) :
    Calls Try.prog 80 #[.pointer (some ⟨b, 0, none⟩), .slice ao n cap] w fun e w' => e = .returned (.tuple #[]) ∧ Only (· = b) w w' ∧ w'.heap[b]? = some (.cells #[.slice ao n cap, .int .i64 lim, .int .i64 (max most n)] 98 (0, 0)) := by
  have c0 := cell_of_blk h 0
  have c1 := cell_of_blk h 1
  have c2 := cell_of_blk h 2
  have f0 := free_of_blk h 0
  have f2 := free_of_blk h 2
  have H := Lib.hid h
  clear h
  go_enter Try.func80, Try.ntmps80
  go_wp2
  · have hmx : max most (n : Int) = n := by
      have : most < (n : Int) := by assumption
      omega
    go_end0
    rw [hmx]
    exact ⟨rfl, (Only.setCell (S := (· = b)) w (p := ⟨b, 0, none⟩) rfl _).same (Only.setCell (S := (· = b)) _ (p := ⟨b, 2, none⟩) rfl _), blk_set (blk_set H.out 0 _) 2 _⟩
  · have hmx : max most (n : Int) = most := by
      have : (n : Int) ≤ most := by assumption
      omega
    go_end0
    rw [hmx]
    exact ⟨rfl, (Only.setCell (S := (· = b)) w (p := ⟨b, 0, none⟩) rfl _).same (Only.setCell (S := (· = b)) _ (p := ⟨b, 2, none⟩) rfl _), blk_set (blk_set H.out 0 _) 2 _⟩

theorem info64 : (Try.prog.info? 35).map (fun i => (i.zero, i.size, i.bytes)) = some (some (.int .u64 0), 1, 8) := by kernel_rfl

theorem limit_any {B b : Nat} {ao : Option Addr} {cap : Nat} {xs : List Int} {lim most : Int} {w : World} (h : RoomP B b ao cap xs lim most w) :
    Calls Try.prog 62 #[.pointer (some ⟨b, 0, none⟩)] w fun e w' => e = .returned (.int .i64 lim) ∧ w = w' := by
  have c1 := h.c1
  clear h
  go_enter Try.func62, Try.ntmps62
  go_wp2
  go_ret
  exact ⟨rfl, rfl⟩
theorem has_any {B b : Nat} {ao : Option Addr} {cap : Nat} {xs : List Int} {lim most : Int} {w : World} (i : Int) (h : RoomP B b ao cap xs lim most w) :
    Calls Try.prog 78 #[.pointer (some ⟨b, 0, none⟩), .int .i64 i] w fun e w' => e = .returned (.bool (hasB xs.length i)) ∧ w = w' := by
  have c0 := h.c0
  clear h
  by_cases h0 : 0 ≤ i
  · have HD : Hid (decide (i < (xs.length : Int)) = hasB xs.length i) := by
      show decide (i < (xs.length : Int)) = hasB xs.length i
      simp [hasB, h0]
    go_enter Try.func78, Try.ntmps78
    go_wp2
    go_ret
    refine ⟨?_, rfl⟩
    rw [← HD.out]
    rfl
  · have HD : Hid (false = hasB xs.length i) := by
      show false = hasB xs.length i
      simp [hasB, h0]
    go_enter Try.func78, Try.ntmps78
    go_wp2
    go_ret
    refine ⟨?_, rfl⟩
    rw [← HD.out]
    rfl
theorem get_no {B b : Nat} {ao : Option Addr} {cap : Nat} {xs : List Int} {lim most : Int} {w : World} (i : Int) (h : RoomP B b ao cap xs lim most w) (hi : ¬ (0 ≤ i ∧ i < (xs.length : Int))) :
    Calls Try.prog 56 #[.pointer (some ⟨b, 0, none⟩), .int .i64 i] w fun e w' => e = .returned (.tuple #[.int .u64 0, .int .i64 4]) ∧ w = w' := by
  have hd := hasB_no hi
  have HD := Lib.hid hd
  have H := Lib.hid h
  clear h hi hd
  go_enter Try.func56, Try.ntmps56
  go_wp2_with fail
  refine (has_any i H.out).mono ?_
  rintro e w1 ⟨rfl, rfl⟩
  rw [HD.out]
  go_wp2_with fail
  go_ret2
  exact ⟨rfl, rfl⟩
theorem get_yes {B b : Nat} {ao : Option Addr} {cap : Nat} {xs : List Int} {lim most : Int} {w : World} (i : Nat) (h : RoomP B b ao cap xs lim most w) (hi : i < xs.length) (hb : xs.length ≤ 1048576) :
    Calls Try.prog 56 #[.pointer (some ⟨b, 0, none⟩), .int .i64 i] w fun e w' => e = .returned (.tuple #[.int .u64 (xs.getD i 0), .int .i64 0]) ∧ w = w' := by
  obtain ⟨g, rfl, hc, hf⟩ := h.at i hi
  have c0 := h.c0
  have hd : hasB xs.length (i : Int) = true := hasB_yes (by omega) (by omega)
  have HD := Lib.hid hd
  have H := Lib.hid h
  generalize hx : xs.getD i 0 = x at hc
  clear h hd hx hf
  go_enter Try.func56, Try.ntmps56
  go_wp2_with fail
  refine (has_any i H.out).mono ?_
  rintro e w1 ⟨rfl, rfl⟩
  rw [HD.out]
  go_wp2_with fail
  go_ret2
  exact ⟨rfl, rfl⟩
theorem set_no {B b : Nat} {ao : Option Addr} {cap : Nat} {xs : List Int} {lim most : Int} {w : World} (i x : Int) (h : RoomP B b ao cap xs lim most w) (hi : ¬ (0 ≤ i ∧ i < (xs.length : Int))) :
    Calls Try.prog 66 #[.pointer (some ⟨b, 0, none⟩), .int .i64 i, .int .u64 x] w fun e w' => e = .returned (.int .i64 4) ∧ w = w' := by
  have hd := hasB_no hi
  have HD := Lib.hid hd
  have H := Lib.hid h
  clear h hi hd
  go_enter Try.func66, Try.ntmps66
  go_wp2_with fail
  refine (has_any i H.out).mono ?_
  rintro e w1 ⟨rfl, rfl⟩
  rw [HD.out]
  go_wp2_with fail
  go_ret
  exact ⟨rfl, rfl⟩
theorem set_yes {B b : Nat} {ao : Option Addr} {cap : Nat} {xs : List Int} {lim most : Int} {w : World} (i : Nat) (x : Int) (h : RoomP B b ao cap xs lim most w) (hi : i < xs.length) (hb : xs.length ≤ 1048576) :
    Calls Try.prog 66 #[.pointer (some ⟨b, 0, none⟩), .int .i64 i, .int .u64 x] w fun e w' => e = .returned (.int .i64 0) ∧ RoomP B b ao cap (xs.set i x) lim most w' ∧ Only (RowAt ao) w w' := by
  obtain ⟨g, rfl, hc, hf⟩ := h.at i hi
  have c0 := h.c0
  have hd : hasB xs.length (i : Int) = true := hasB_yes (by omega) (by omega)
  have HD := Lib.hid hd
  have H := Lib.hid h
  generalize xs.getD i 0 = x0 at hc
  clear h hd
  go_enter Try.func66, Try.ntmps66
  go_wp2_with fail
  refine (has_any i H.out).mono ?_
  rintro e w1 ⟨rfl, rfl⟩
  rw [HD.out]
  go_wp2_with fail
  go_ret
  exact ⟨rfl, H.out.stored i x⟩

theorem room_cut {B b : Nat} {ao : Option Addr} {cap : Nat} {xs : List Int} {lim most : Int} {w : World} {n : Nat} (h : RoomP B b ao cap xs lim most w) (hn : n ≤ xs.length) :
    RoomP B b ao cap (xs.take n) lim most (w.setCell ⟨b, 0, none⟩ (.slice ao n cap)) ∧ Only (· = b) w (w.setCell ⟨b, 0, none⟩ (.slice ao n cap)) := by
  have ho : Only (· = b) w (w.setCell ⟨b, 0, none⟩ (.slice ao n cap)) := Only.setCell (S := (· = b)) w (p := ⟨b, 0, none⟩) rfl _
  have hl : (xs.take n).length = n := by rw [List.length_take]; omega
  refine ⟨IsRoom.behind ?_ (Row.take h.row n hn) ho h.low h.other, ho⟩
  rw [hl]
  exact blk_set h.blk 0 _
theorem cut_no {B b : Nat} {ao : Option Addr} {cap : Nat} {xs : List Int} {lim most : Int} {w : World} (n : Int) (h : RoomP B b ao cap xs lim most w) (hn : n < 0 ∨ (xs.length : Int) < n) :
    Calls Try.prog 63 #[.pointer (some ⟨b, 0, none⟩), .int .i64 n] w fun e w' => e = .returned (.int .i64 1) ∧ w = w' := by
  have c0 := h.c0
  clear h
  by_cases h0 : n < 0
  · clear hn
    go_enter Try.func63, Try.ntmps63
    go_wp2
    go_ret
    exact ⟨rfl, rfl⟩
  · have h1 : (xs.length : Int) < n := by omega
    clear hn
    go_enter Try.func63, Try.ntmps63
    go_wp2
    go_ret
    exact ⟨rfl, rfl⟩
theorem cut_yes {B b : Nat} {ao : Option Addr} {cap : Nat} {xs : List Int} {lim most : Int} {w : World} (n : Nat) (h : RoomP B b ao cap xs lim most w) (hn : n ≤ xs.length) (hb : xs.length ≤ 1048576) :
    Calls Try.prog 63 #[.pointer (some ⟨b, 0, none⟩), .int .i64 n] w fun e w' => e = .returned (.int .i64 0) ∧ RoomP B b ao cap (xs.take n) lim most w' ∧ Only (· = b) w w' := by
  have c0 := h.c0
  have f0 := h.fz 0
  have hcap := h.cap_ge
  have hcap2 := h.cap_le
  unfold maxLen at hcap2
  have H := Lib.hid h
  clear h
  go_enter Try.func63, Try.ntmps63
  go_wp2
  go_ret
  exact ⟨rfl, room_cut H.out hn⟩

end Go.Proofs.Ythfilpacmllhpaa.rooms
