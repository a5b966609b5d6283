/- Environments and choices in memory: New, put, Get, Set, Alloc. -/
import Derived.Test.YthfilpacmllhpaaStk1
namespace Go.Proofs.Ythfilpacmllhpaa.stk
set_option maxRecDepth 100000
open Go.RowKit Go.Proofs.Ythfilpacmllhpaa.own
open Go.Proofs.Ythfilpacmllhpaa.rooms (RoomP IsRoom)
section
variable {b rb : Nat} {ao co : Option Addr} {cap cc : Nat} {most wl lim : Int} {s : St} {w w' : World}
theorem put_at {env : Int} {n : Nat} {xs : List Int} (hb : Box b rb env co n cc lim w) (hr : RoomP 0 rb ao cap xs wl most w) (i j k : Nat) (hk : i + j = k) (z : Int) (hkl : k < xs.length) (hl : xs.length ≤ 1048576) :
    Calls Try.prog 65 #[.pointer (some ⟨b, 0, none⟩), .int .i64 i, .int .i64 j, .int .i64 z] w fun e w' => e = .returned (.tuple #[]) ∧ RoomP 0 rb ao cap (xs.set k (uw z)) wl most w' ∧ Only (rooms.RowAt ao) w w' := by
  have c0 := hb.c0
  have HX := Lib.hid hr
  have he : (i : Int) + (j : Int) = (k : Int) := by omega
  have hi : (i : Int) ≤ 1048576 := by omega
  have hj : (j : Int) ≤ 1048576 := by omega
  have HE := Lib.hid he
  have HL := Lib.hid hl
  have HK := Lib.hid hkl
  clear hb hr he hk hl hkl
  go_enter Try.func65, Try.ntmps65
  go_wp2_with fail
  rw [HE.out, show IntKind.u64.wrap z = uw z from rfl]
  refine (rooms.set_yes k (uw z) HX.out HK.out HL.out).mono ?_
  rintro e w' ⟨rfl, h1, h2⟩
  have H1 := Lib.hid h1
  have H2 := Lib.hid h2
  clear h1 h2
  go_wp2_with fail
  go_end0
  exact ⟨rfl, H1.out, toOwn H2.out⟩
theorem Get_no (h : Stk b rb ao cap most co cc s wl lim w) (i : Int) (hi : i < 1 ∨ (slotsF s.cur : Int) < i) : Calls Try.prog 21 #[.pointer (some ⟨b, 0, none⟩), .int .i64 i] w fun e w' => e = .returned (.tuple #[.int .u64 0, .int .i64 4]) ∧ w' = w := by
  have HB := Lib.hid (closed_no h.box)
  have HS := Lib.hid (hasSlot_no h i hi)
  clear h hi
  go_enter Try.func21, Try.ntmps21
  go_wp2_with fail
  refine HB.out.mono ?_
  rintro e w' ⟨rfl, rfl⟩
  go_wp2_with fail
  refine HS.out.mono ?_
  rintro e w' ⟨rfl, rfl⟩
  go_wp2_with fail
  go_ret2
  exact ⟨rfl, rfl⟩
theorem Get_yes (h : Stk b rb ao cap most co cc s wl lim w) {f : Fr} {fs : List Fr} (hn : s.cur = f :: fs) (i : Nat) (hi : i < f.ys.length) : Calls Try.prog 21 #[.pointer (some ⟨b, 0, none⟩), .int .i64 ((i : Int) + 1)] w fun e w' => e = .returned (.tuple #[.int .u64 (f.ys.getD i 0), .int .i64 0]) ∧ Only (fun _ => False) w w' := by
  have HB := Lib.hid (closed_no h.box)
  have HS := Lib.hid (hasSlot_yes h i (by rw [hn]; exact hi))
  have hC := h.ok.cur
  have hb := h.box
  rw [hn] at hC
  rw [hn, show headB (f :: fs) = f.base from rfl] at hb
  have c0 := hb.c0
  have c1 := hb.c1
  have hle := hC.1.le
  have hxl := h.len
  have hx := hC.1.ys i (f.ys.getD i 0) (by simp [List.getD, List.getElem?_eq_getElem hi])
  have hgd : s.xs.getD (f.base + 4 + i) 0 = f.ys.getD i 0 := by simp only [List.getD, hx, Option.getD_some]
  have HP : Hid (∀ W : World, Calls Try.prog 57 #[.pointer (some ⟨b, 0, none⟩), .int .i64 f.base, .int .i64 ((i : Int) + 1)] W fun e w' => e = .returned (.int .i64 ((f.base + 4 + i : Nat) : Int)) ∧ w' = W) := Lib.hid (fun W => by
    have := place_any f.base ((i : Int) + 1) ⟨by omega, by omega⟩ ⟨by omega, by omega⟩ (.pointer (some ⟨b, 0, none⟩)) W
    rwa [show (f.base : Int) + 4 + ((i : Int) + 1) - 1 = ((f.base + 4 + i : Nat) : Int) by omega] at this)
  have HG : Hid (∀ W : World, Only (fun _ => False) w W → Calls Try.prog 56 #[.pointer (some ⟨rb, 0, none⟩), .int .i64 ((f.base + 4 + i : Nat) : Int)] W fun e w' => e = .returned (.tuple #[.int .u64 (f.ys.getD i 0), .int .i64 0]) ∧ w' = W) := Lib.hid (fun W o => by
    refine (rooms.get_yes (f.base + 4 + i) (h.room.only (toRooms o) (fun _ _ e => e)) (by omega) hxl).mono ?_
    rintro e w' ⟨rfl, rfl⟩
    exact ⟨by rw [hgd], rfl⟩)
  clear h hC hb hle hxl hx hgd hn hi
  generalize f.ys.getD i 0 = x at *
  generalize (i : Int) + 1 = j at *
  generalize f.base + 4 + i = k at *
  generalize f.base = m at *
  go_enter Try.func21, Try.ntmps21
  go_wp2_with fail
  refine HB.out.mono ?_
  rintro e w' ⟨rfl, rfl⟩
  go_wp2_with fail
  refine HS.out.mono ?_
  rintro e w' ⟨rfl, rfl⟩
  go_wp2_with fail
  go_quiet (first | (go_at_call 57; exact Calls.quiet_of_same (HP.out _)) | (go_at_call 56; exact Calls.quiet_of_same (HG.out _ (Only.drewN _ _ _))))
  go_wp2_with fail
  go_ret2
  exact ⟨rfl, Only.drewN _ _ _⟩
theorem New_no (n m : Int) (w : World) (h : m < 0 ∨ 4095 < m) : Calls Try.prog 7 #[.int .i64 n, .int .i64 m] w fun e w' => e = .returned (.tuple #[.pointer none, .int .i64 1]) ∧ w' = w := by
  by_cases h0 : m < 0
  · clear h
    go_enter Try.func7, Try.ntmps7
    go_wp2
    go_ret2
    exact ⟨rfl, rfl⟩
  · have h1 : 4095 < m := by omega
    clear h
    go_enter Try.func7, Try.ntmps7
    go_wp2
    go_ret2
    exact ⟨rfl, rfl⟩
theorem New_no2 (n m : Int) (w : World) (h0 : 0 ≤ m) (h1 : m ≤ 4095) (h : n < 0 ∨ 1048576 < n) : Calls Try.prog 7 #[.int .i64 n, .int .i64 m] w fun e w' => e = .returned (.tuple #[.pointer none, .int .i64 1]) ∧ w' = w := by
  have HN := Lib.hid (rooms.new_no n w h)
  clear h
  go_enter Try.func7, Try.ntmps7
  go_wp2_with fail
  refine HN.out.mono ?_
  rintro e w' ⟨rfl, rfl⟩
  go_wp2_with fail
  go_ret2
  exact ⟨rfl, rfl⟩
def st0 : St := ⟨[], [], []⟩
theorem st0_ok : st0.Ok := ⟨trivial, fun f h => by simp [st0, St.all] at h, fun c h => by simp [st0] at h, List.Pairwise.nil, Nat.le_refl _⟩
theorem New_yes (n m : Int) (w : World) (h0 : 0 ≤ m) (h1 : m ≤ 4095) (h2 : 0 ≤ n) (h3 : n ≤ 1048576) : Calls Try.prog 7 #[.int .i64 n, .int .i64 m] w fun e w' => ∃ b rb, e = .returned (.tuple #[.pointer (some ⟨b, 0, none⟩), .int .i64 0]) ∧ Stk b rb none 0 0 none 0 st0 n m w' ∧ Only (fun _ => False) w w' ∧ w.heap.size ≤ b ∧ w.heap.size ≤ rb ∧ b < w'.heap.size ∧ rb < w'.heap.size := by
  have HN := Lib.hid (rooms.new_yes n w h2 h3)
  go_enter Try.func7, Try.ntmps7
  go_wp2_with fail
  refine HN.out.mono ?_
  rintro e w1 ⟨rb, rfl, hr, ho, hrb⟩
  have HR := Lib.hid hr
  have HO := Lib.hid ho
  have HB := Lib.hid hrb
  clear hr ho hrb
  go_wp2_with fail
  go_ret2
  have hlt := HR.out.lt
  have hr2 : RoomP 0 rb none 0 [] n 0 w1 := ⟨HR.out.blk, World.ownsRow_nil _ _ _ _, Nat.zero_le _, fun g hg => by cases hg⟩
  refine ⟨w1.heap.size, rb, rfl, ⟨⟨heap_alloc_new w1 _⟩, hr2.only (toRooms (Only.alloc _ _ _)) (fun _ _ e => e), RowOf.nil _ _ _ _ _, fun c hc => by simp [st0] at hc, ⟨?_, ?_⟩, ?_, st0_ok, ⟨by simpa [st0] using h2, h3⟩, ⟨by simpa [st0] using h0, h1⟩⟩, (toOwn HO.out).same (Only.alloc _ _ _), HO.out.size, by rw [HB.out]; exact Nat.le_refl _, by simp, by simp; omega⟩
  · rintro (e | ⟨g, hg, _⟩)
    · omega
    · cases hg
  · rintro ⟨g, hg, _⟩; cases hg
  · rintro k _ ⟨g, hg, _⟩; cases hg
end
end Go.Proofs.Ythfilpacmllhpaa.stk
