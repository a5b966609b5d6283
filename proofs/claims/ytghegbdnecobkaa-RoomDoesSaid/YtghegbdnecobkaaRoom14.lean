/- One call of both rooms: Pop, Get, Set, kept, nothing. -/
import Derived.Test.YtghegbdnecobkaaRoom13
namespace Go.Proofs.Ytghegbdnecobkaa.rooms
open Go.RowKit
section
variable {B b rb : Nat} {lim : Int} {xs : List Int} {most : Int} {ao : Option Addr} {cap : Nat} {rao : Option Addr} {rcap : Nat} {w : World}

theorem do_pop_no (n x : Int) (h : Both B b rb lim xs most ao cap rao rcap w) (hn : xs = []) :
    Calls Try.prog 11 #[.pointer (some ⟨b, 0, none⟩), .pointer (some ⟨rb, 0, none⟩), .agg #[.int .i64 2, .int .i64 n, .int .u64 x]] w fun e w' => e = .returned (.bool true) ∧
      ∃ ao' cap' rao' rcap', Both B b rb lim xs most ao' cap' rao' rcap' w' ∧ Below B w w' := by
  have H := Lib.hid h
  clear h
  go_enter Try.func11, Try.ntmps11
  go_wp2_with fail
  generalize hw1 : w.alloc (Obj.cells #[Value.int IntKind.i64 2, Value.int IntKind.i64 n, Value.int IntKind.u64 x] 33) = w1
  obtain ⟨hb1, hB1, hs1, c1, c2⟩ := H.out.laid 2 n x hw1
  have H1 := Lib.hid hb1
  have HB1 := Lib.hid hB1
  clear hw1 hb1 hB1
  refine (pop_no H1.out.room hn).mono ?_
  rintro e w2 ⟨rfl, rfl⟩
  go_wp2_with fail
  refine (rpop_no H1.out.ref hn).mono ?_
  rintro e w2 ⟨rfl, rfl⟩
  go_wp2_with fail
  go_ret
  exact ⟨rfl, _, _, _, _, H1.out, HB1.out⟩
theorem do_pop (k : Nat) (n x : Int) (h : Both B b rb lim xs most ao cap rao rcap w) (hlim : lim ≤ 1048576) (hk : xs.length = k + 1) :
    Calls Try.prog 11 #[.pointer (some ⟨b, 0, none⟩), .pointer (some ⟨rb, 0, none⟩), .agg #[.int .i64 2, .int .i64 n, .int .u64 x]] w fun e w' => e = .returned (.bool true) ∧
      ∃ ao' cap' rao' rcap', Both B b rb lim (xs.take k) most ao' cap' rao' rcap' w' ∧ Below B w w' := by
  have H := Lib.hid h
  have hle0 := h.le
  clear h
  go_enter Try.func11, Try.ntmps11
  go_wp2_with fail
  generalize hw1 : w.alloc (Obj.cells #[Value.int IntKind.i64 2, Value.int IntKind.i64 n, Value.int IntKind.u64 x] 33) = w1
  obtain ⟨hb1, hB1, hs1, c1, c2⟩ := H.out.laid 2 n x hw1
  have H1 := Lib.hid hb1
  have HB1 := Lib.hid hB1
  clear hw1 hb1 hB1
  refine (pop_yes k H1.out.room hk (by omega)).mono ?_
  rintro e w2 ⟨rfl, r2, o2⟩
  have F2 := Lib.hid (H1.out.refl_ref o2.struct)
  have R2 := Lib.hid r2
  have O2 := Lib.hid o2
  clear r2 o2
  go_wp2_with fail
  refine (rpop_yes k F2.out hk (by omega)).mono ?_
  rintro e w3 ⟨rfl, r3, o3⟩
  have R3 := Lib.hid r3
  have O3 := Lib.hid o3
  clear r3 o3
  go_wp2_with fail
  go_ret
  obtain ⟨hb, hbel⟩ := H1.out.stepped R2.out O2.out.struct (NewRow.refl _ _) R3.out O3.out.struct (NewRow.refl _ _) (by rw [List.length_take]; omega) (fun y hy => H.out.fits y (List.mem_of_mem_take hy))
  exact ⟨rfl, _, _, _, _, hb, HB1.out.trans hbel⟩
theorem do_get_low (n x : Int) (h : Both B b rb lim xs most ao cap rao rcap w) (hn : n < 0) :
    Calls Try.prog 11 #[.pointer (some ⟨b, 0, none⟩), .pointer (some ⟨rb, 0, none⟩), .agg #[.int .i64 3, .int .i64 n, .int .u64 x]] w fun e w' => e = .returned (.bool true) ∧
      ∃ ao' cap' rao' rcap', Both B b rb lim xs most ao' cap' rao' rcap' w' ∧ Below B w w' := by
  have H := Lib.hid h
  have hle0 := h.le
  clear h
  go_enter Try.func11, Try.ntmps11
  go_wp2_with fail
  generalize hw1 : w.alloc (Obj.cells #[Value.int IntKind.i64 3, Value.int IntKind.i64 n, Value.int IntKind.u64 x] 33) = w1
  obtain ⟨hb1, hB1, hs1, c1, c2⟩ := H.out.laid 3 n x hw1
  have H1 := Lib.hid hb1
  have HB1 := Lib.hid hB1
  clear hw1 hb1 hB1
  go_wp2_with fail
  refine (get_no n H1.out.room (by omega)).mono ?_
  rintro e w2 ⟨rfl, rfl⟩
  have c0 := H1.out.ref.c0
  go_wp2_with fail
  go_quiet (fail)
  have H2 := Lib.hid (H1.out.only (Only.drewN _ w1 nq))
  have HB2 := Lib.hid (HB1.out.trans ((Only.drewN (fun _ => False) w1 nq).below (Nat.le_trans H1.out.room.low (Nat.le_of_lt H1.out.room.lt)) (fun _ _ e => e.elim)))
  generalize w1.drewN nq = w4 at *
  go_wp2_with fail
  go_ret
  exact ⟨rfl, _, _, _, _, H2.out, HB2.out⟩
theorem do_get_high (n x : Int) (h : Both B b rb lim xs most ao cap rao rcap w) (hn : 0 ≤ n) (hn1 : (xs.length : Int) ≤ n) :
    Calls Try.prog 11 #[.pointer (some ⟨b, 0, none⟩), .pointer (some ⟨rb, 0, none⟩), .agg #[.int .i64 3, .int .i64 n, .int .u64 x]] w fun e w' => e = .returned (.bool true) ∧
      ∃ ao' cap' rao' rcap', Both B b rb lim xs most ao' cap' rao' rcap' w' ∧ Below B w w' := by
  have H := Lib.hid h
  have hle0 := h.le
  clear h
  have hd : decide (n < 0) = false := decide_eq_false (by omega)
  go_enter Try.func11, Try.ntmps11
  go_wp2_with fail
  generalize hw1 : w.alloc (Obj.cells #[Value.int IntKind.i64 3, Value.int IntKind.i64 n, Value.int IntKind.u64 x] 33) = w1
  obtain ⟨hb1, hB1, hs1, c1, c2⟩ := H.out.laid 3 n x hw1
  have H1 := Lib.hid hb1
  have HB1 := Lib.hid hB1
  clear hw1 hb1 hB1
  go_wp2_with fail
  refine (get_no n H1.out.room (by omega)).mono ?_
  rintro e w2 ⟨rfl, rfl⟩
  have c0 := H1.out.ref.c0
  go_wp2_with fail
  go_quiet (fail)
  have H2 := Lib.hid (H1.out.only (Only.drewN _ w1 nq))
  have HB2 := Lib.hid (HB1.out.trans ((Only.drewN (fun _ => False) w1 nq).below (Nat.le_trans H1.out.room.low (Nat.le_of_lt H1.out.room.lt)) (fun _ _ e => e.elim)))
  generalize w1.drewN nq = w4 at *
  go_wp2_with fail
  go_ret
  exact ⟨rfl, _, _, _, _, H2.out, HB2.out⟩
theorem do_get (k : Nat) (x : Int) (h : Both B b rb lim xs most ao cap rao rcap w) (hlim : lim ≤ 1048576) (hk : k < xs.length) :
    Calls Try.prog 11 #[.pointer (some ⟨b, 0, none⟩), .pointer (some ⟨rb, 0, none⟩), .agg #[.int .i64 3, .int .i64 k, .int .u64 x]] w fun e w' => e = .returned (.bool true) ∧
      ∃ ao' cap' rao' rcap', Both B b rb lim xs most ao' cap' rao' rcap' w' ∧ Below B w w' := by
  have H := Lib.hid h
  have hle0 := h.le
  clear h
  have hd0 : (0 : Int) ≤ (k : Int) := by omega
  have hd1 : (k : Int) < (xs.length : Int) := by omega
  have hd : decide ((k : Int) < 0) = false := decide_eq_false (by omega)
  have hd2 : decide ((xs.length : Int) ≤ (k : Int)) = false := decide_eq_false (by omega)
  go_enter Try.func11, Try.ntmps11
  go_wp2_with fail
  generalize hw1 : w.alloc (Obj.cells #[Value.int IntKind.i64 3, Value.int IntKind.i64 (k : Int), Value.int IntKind.u64 x] 33) = w1
  obtain ⟨hb1, hB1, hs1, c1, c2⟩ := H.out.laid 3 k x hw1
  have H1 := Lib.hid hb1
  have HB1 := Lib.hid hB1
  clear hw1 hb1 hB1
  go_wp2_with fail
  refine (get_yes k H1.out.room hk (by omega)).mono ?_
  rintro e w2 ⟨rfl, rfl⟩
  have c0 := H1.out.ref.c0
  obtain ⟨g, rfl, hcx, _⟩ := H1.out.ref.at k hk
  generalize xs.getD k 0 = y at hcx ⊢
  go_wp2_with fail
  go_quiet (fail)
  generalize hw2 : w1.drewN nq = w2
  have H2 := Lib.hid (show Both B b rb lim xs most _ _ _ _ w2 from hw2 ▸ H1.out.only (Only.drewN _ w1 nq))
  have HB2 := Lib.hid (show Below B w w2 from hw2 ▸ HB1.out.trans ((Only.drewN (fun _ => False) w1 nq).below (Nat.le_trans H1.out.room.low (Nat.le_of_lt H1.out.room.lt)) (fun _ _ e => e.elim)))
  have hcx2 : w2.cell? ⟨g, k, none⟩ = some (.int .u64 y) := by rw [← hw2]; exact hcx
  have c12 : w2.cell? ⟨w.heap.size, 1, none⟩ = some (.int .i64 k) := by rw [← hw2]; exact c1
  have c0 := H2.out.ref.c0
  clear hw2 hcx c1 c2
  go_wp2_with fail
  go_quiet (fail)
  have H3 := Lib.hid (H2.out.only (Only.drewN _ w2 nq))
  have HB3 := Lib.hid (HB2.out.trans ((Only.drewN (fun _ => False) w2 nq).below (Nat.le_trans H2.out.room.low (Nat.le_of_lt H2.out.room.lt)) (fun _ _ e => e.elim)))
  generalize w2.drewN nq = w4 at *
  go_wp2_with fail
  go_ret
  exact ⟨rfl, _, _, _, _, H3.out, HB3.out⟩
theorem do_set_low (n x : Int) (h : Both B b rb lim xs most ao cap rao rcap w) (hn : n < 0) :
    Calls Try.prog 11 #[.pointer (some ⟨b, 0, none⟩), .pointer (some ⟨rb, 0, none⟩), .agg #[.int .i64 4, .int .i64 n, .int .u64 x]] w fun e w' => e = .returned (.bool true) ∧
      ∃ ao' cap' rao' rcap', Both B b rb lim xs most ao' cap' rao' rcap' w' ∧ Below B w w' := by
  have H := Lib.hid h
  have hle0 := h.le
  clear h
  go_enter Try.func11, Try.ntmps11
  go_wp2_with fail
  generalize hw1 : w.alloc (Obj.cells #[Value.int IntKind.i64 4, Value.int IntKind.i64 n, Value.int IntKind.u64 x] 33) = w1
  obtain ⟨hb1, hB1, hs1, c1, c2⟩ := H.out.laid 4 n x hw1
  have H1 := Lib.hid hb1
  have HB1 := Lib.hid hB1
  clear hw1 hb1 hB1
  go_wp2_with fail
  refine (set_no n x H1.out.room (by omega)).mono ?_
  rintro e w2 ⟨rfl, rfl⟩
  have c0 := H1.out.ref.c0
  go_wp2_with fail
  go_quiet (fail)
  have H2 := Lib.hid (H1.out.only (Only.drewN _ w1 nq))
  have HB2 := Lib.hid (HB1.out.trans ((Only.drewN (fun _ => False) w1 nq).below (Nat.le_trans H1.out.room.low (Nat.le_of_lt H1.out.room.lt)) (fun _ _ e => e.elim)))
  generalize w1.drewN nq = w4 at *
  go_wp2_with fail
  go_ret
  exact ⟨rfl, _, _, _, _, H2.out, HB2.out⟩
theorem do_set_high (n x : Int) (h : Both B b rb lim xs most ao cap rao rcap w) (hn : 0 ≤ n) (hn1 : (xs.length : Int) ≤ n) :
    Calls Try.prog 11 #[.pointer (some ⟨b, 0, none⟩), .pointer (some ⟨rb, 0, none⟩), .agg #[.int .i64 4, .int .i64 n, .int .u64 x]] w fun e w' => e = .returned (.bool true) ∧
      ∃ ao' cap' rao' rcap', Both B b rb lim xs most ao' cap' rao' rcap' w' ∧ Below B w w' := by
  have H := Lib.hid h
  have hle0 := h.le
  clear h
  have hd : decide (n < 0) = false := decide_eq_false (by omega)
  go_enter Try.func11, Try.ntmps11
  go_wp2_with fail
  generalize hw1 : w.alloc (Obj.cells #[Value.int IntKind.i64 4, Value.int IntKind.i64 n, Value.int IntKind.u64 x] 33) = w1
  obtain ⟨hb1, hB1, hs1, c1, c2⟩ := H.out.laid 4 n x hw1
  have H1 := Lib.hid hb1
  have HB1 := Lib.hid hB1
  clear hw1 hb1 hB1
  go_wp2_with fail
  refine (set_no n x H1.out.room (by omega)).mono ?_
  rintro e w2 ⟨rfl, rfl⟩
  have c0 := H1.out.ref.c0
  go_wp2_with fail
  go_quiet (fail)
  have H2 := Lib.hid (H1.out.only (Only.drewN _ w1 nq))
  have HB2 := Lib.hid (HB1.out.trans ((Only.drewN (fun _ => False) w1 nq).below (Nat.le_trans H1.out.room.low (Nat.le_of_lt H1.out.room.lt)) (fun _ _ e => e.elim)))
  generalize w1.drewN nq = w4 at *
  go_wp2_with fail
  go_ret
  exact ⟨rfl, _, _, _, _, H2.out, HB2.out⟩
theorem do_set (k : Nat) (x : Int) (h : Both B b rb lim xs most ao cap rao rcap w) (hlim : lim ≤ 1048576) (hx : 0 ≤ x ∧ x < 18446744073709551616) (hk : k < xs.length) :
    Calls Try.prog 11 #[.pointer (some ⟨b, 0, none⟩), .pointer (some ⟨rb, 0, none⟩), .agg #[.int .i64 4, .int .i64 k, .int .u64 x]] w fun e w' => e = .returned (.bool true) ∧
      ∃ ao' cap' rao' rcap', Both B b rb lim (xs.set k x) most ao' cap' rao' rcap' w' ∧ Below B w w' := by
  have H := Lib.hid h
  have hle0 := h.le
  clear h
  have hd0 : (0 : Int) ≤ (k : Int) := by omega
  have hd1 : (k : Int) < (xs.length : Int) := by omega
  have hd : decide ((k : Int) < 0) = false := decide_eq_false (by omega)
  have hd2 : decide ((xs.length : Int) ≤ (k : Int)) = false := decide_eq_false (by omega)
  go_enter Try.func11, Try.ntmps11
  go_wp2_with fail
  generalize hw1 : w.alloc (Obj.cells #[Value.int IntKind.i64 4, Value.int IntKind.i64 (k : Int), Value.int IntKind.u64 x] 33) = w1
  obtain ⟨hb1, hB1, hs1, c1, c2⟩ := H.out.laid 4 k x hw1
  have H1 := Lib.hid hb1
  have HB1 := Lib.hid hB1
  clear hw1 hb1 hB1
  go_wp2_with fail
  refine (set_yes k x H1.out.room hk (by omega)).mono ?_
  rintro e w2 ⟨rfl, r2, o2⟩
  have R2 := Lib.hid r2
  have O2 := Lib.hid (show Only (Mine b ao) w1 w2 from o2.rowAt)
  have F2 := Lib.hid (H1.out.refl_ref O2.out)
  have c12 : w2.cell? ⟨w.heap.size, 1, none⟩ = some (.int .i64 k) := (H.out.cellNew (W := w1) hs1 rfl (fun _ e => .inl e) O2.out).trans c1
  have c22 : w2.cell? ⟨w.heap.size, 2, none⟩ = some (.int .u64 x) := (H.out.cellNew (W := w1) hs1 rfl (fun _ e => .inl e) O2.out).trans c2
  clear r2 o2 c1 c2
  have c0 := F2.out.c0
  go_wp2_with fail
  go_quiet (fail)
  generalize hw3 : w2.drewN nq = w3
  have R3 := Lib.hid (show RoomP B b ao cap (xs.set k x) lim most w3 from hw3 ▸ R2.out.only (Only.drewN (fun _ => False) w2 nq) (fun _ _ e => e))
  have F3 := Lib.hid (show RefP B rb rao rcap xs lim most w3 from hw3 ▸ F2.out.only (Only.drewN (fun _ => False) w2 nq) (fun _ _ e => e))
  have O3 := Lib.hid (show Only (Mine b ao) w1 w3 from hw3 ▸ O2.out.same (Only.drewN _ w2 nq))
  have c13 : w3.cell? ⟨w.heap.size, 1, none⟩ = some (.int .i64 k) := by rw [← hw3]; exact c12
  have c23 : w3.cell? ⟨w.heap.size, 2, none⟩ = some (.int .u64 x) := by rw [← hw3]; exact c22
  obtain ⟨g, rfl, hcx, hfx⟩ := F3.out.at k hk
  generalize xs.getD k 0 = y at hcx
  have c0 := F3.out.c0
  have hg1 : ¬ g = rb := fun e => F3.out.other _ rfl e
  have hg2 : ¬ rb = g := fun e => hg1 e.symm
  have hgl := H.out.lt g (.inr (.inr ⟨_, rfl, rfl⟩))
  have hg3 : ¬ g = w.heap.size := by omega
  have hg4 : ¬ w.heap.size = g := by omega
  clear hgl hw3 R2 F2 O2 c12 c22
  go_wp2_with fail
  go_region_held3 (fun w' => w'.cell? ⟨rb, 0, none⟩ = some (.slice (some ⟨g, 0, none⟩) xs.length rcap) ∧ w'.cell? ⟨w.heap.size, 1, none⟩ = some (.int .i64 k) ∧ w'.cell? ⟨w.heap.size, 2, none⟩ = some (.int .u64 x)) (go_keep) (fail)
  obtain ⟨r4, o4⟩ := F3.out.stored k x
  have HS := Lib.hid (H1.out.stepped R3.out O3.out (NewRow.refl _ _) (r4.only (Only.drew (fun _ => False) _) (fun _ _ e => e)) ((show Only (Mine rb (some ⟨g, 0, none⟩)) w3 _ from o4.rowAt).same (Only.drew _ _)) (NewRow.refl _ _) (by rw [List.length_set]; exact hle0) (fun y hy => by
    rcases List.mem_or_eq_of_mem_set hy with h | h
    · exact H.out.fits y h
    · rw [h]; exact hx))
  clear r4 o4 F3 O3 R3
  generalize (w3.setCell ⟨g, k, none⟩ (Value.int IntKind.u64 x)).drew = w5 at *
  go_wp2_with fail
  go_ret
  exact ⟨rfl, _, _, _, _, HS.out.1, HB1.out.trans HS.out.2⟩
theorem do_kept (n x : Int) (h : Both B b rb lim xs most ao cap rao rcap w) (hlim : lim ≤ 1048576) :
    Calls Try.prog 11 #[.pointer (some ⟨b, 0, none⟩), .pointer (some ⟨rb, 0, none⟩), .agg #[.int .i64 7, .int .i64 n, .int .u64 x]] w fun e w' => e = .returned (.bool true) ∧
      ∃ ao' cap' rao' rcap', Both B b rb lim (leftOf n xs) most ao' cap' rao' rcap' w' ∧ Below B w w' := by
  have H := Lib.hid h
  clear h
  go_enter Try.func11, Try.ntmps11
  go_wp2_with fail
  generalize hw1 : w.alloc (Obj.cells #[Value.int IntKind.i64 7, Value.int IntKind.i64 n, Value.int IntKind.u64 x] 33) = w1
  obtain ⟨hb1, hB1, hs1, c1, c2⟩ := H.out.laid 7 n x hw1
  have H1 := Lib.hid hb1
  have HB1 := Lib.hid hB1
  clear hw1 hb1 hB1
  go_wp2_with fail
  refine (kept_any n H1.out hlim).mono ?_
  rintro e w2 ⟨rfl, ao2, cap2, rao2, rcap2, h2, b2⟩
  have H2 := Lib.hid h2
  have HB2 := Lib.hid b2
  clear h2 b2
  go_wp2_with fail
  go_ret
  exact ⟨rfl, _, _, _, _, H2.out, HB1.out.trans HB2.out⟩
theorem do_other (m n x : Int) (h : Both B b rb lim xs most ao cap rao rcap w) (hm : m < 1 ∨ 7 < m) :
    Calls Try.prog 11 #[.pointer (some ⟨b, 0, none⟩), .pointer (some ⟨rb, 0, none⟩), .agg #[.int .i64 m, .int .i64 n, .int .u64 x]] w fun e w' => e = .returned (.bool true) ∧
      ∃ ao' cap' rao' rcap', Both B b rb lim xs most ao' cap' rao' rcap' w' ∧ Below B w w' := by
  have H := Lib.hid h
  clear h
  have e1 : (m == 1) = false := by simp; omega
  have e2 : (m == 2) = false := by simp; omega
  have e3 : (m == 3) = false := by simp; omega
  have e4 : (m == 4) = false := by simp; omega
  have e5 : (m == 5) = false := by simp; omega
  have e6 : (m == 6) = false := by simp; omega
  have e7 : (m == 7) = false := by simp; omega
  go_enter Try.func11, Try.ntmps11
  go_wp2_with fail
  go_ret
  exact ⟨rfl, _, _, _, _, H.out.only (Only.alloc _ w _), (Only.alloc (fun _ => False) w _).below (Nat.le_trans H.out.room.low (Nat.le_of_lt H.out.room.lt)) (fun _ _ e => e.elim)⟩

/-- Every call of both: they agree. -/
theorem do_any (m n x : Int) (h : Both B b rb lim xs most ao cap rao rcap w) (hlim : lim ≤ 1048576) (hx : 0 ≤ x ∧ x < 18446744073709551616) :
    Calls Try.prog 11 #[.pointer (some ⟨b, 0, none⟩), .pointer (some ⟨rb, 0, none⟩), .agg #[.int .i64 m, .int .i64 n, .int .u64 x]] w fun e w' => e = .returned (.bool true) ∧
      ∃ ys most' ao' cap' rao' rcap', Both B b rb lim ys most' ao' cap' rao' rcap' w' ∧ Below B w w' := by
  by_cases h0 : m < 1 ∨ 7 < m
  · exact (do_other m n x h h0).mono (fun e w' ⟨he, r⟩ => ⟨he, _, _, r⟩)
  · obtain rfl | rfl | rfl | rfl | rfl | rfl | rfl : m = 1 ∨ m = 2 ∨ m = 3 ∨ m = 4 ∨ m = 5 ∨ m = 6 ∨ m = 7 := by omega
    · by_cases h1 : (xs.length : Int) < lim
      · exact (do_push n x h hlim hx h1).mono (fun e w' ⟨he, r⟩ => ⟨he, _, _, r⟩)
      · exact (do_push_full n x h hlim (by omega)).mono (fun e w' ⟨he, r⟩ => ⟨he, _, _, r⟩)
    · by_cases h1 : xs = []
      · exact (do_pop_no n x h h1).mono (fun e w' ⟨he, r⟩ => ⟨he, _, _, r⟩)
      · have := List.length_pos_iff.2 h1
        exact (do_pop (xs.length - 1) n x h hlim (by omega)).mono (fun e w' ⟨he, r⟩ => ⟨he, _, _, r⟩)
    · by_cases h1 : n < 0
      · exact (do_get_low n x h h1).mono (fun e w' ⟨he, r⟩ => ⟨he, _, _, r⟩)
      · by_cases h2 : (xs.length : Int) ≤ n
        · exact (do_get_high n x h (by omega) h2).mono (fun e w' ⟨he, r⟩ => ⟨he, _, _, r⟩)
        · obtain ⟨k, rfl⟩ := Int.eq_ofNat_of_zero_le (show 0 ≤ n by omega)
          exact (do_get k x h hlim (by omega)).mono (fun e w' ⟨he, r⟩ => ⟨he, _, _, r⟩)
    · by_cases h1 : n < 0
      · exact (do_set_low n x h h1).mono (fun e w' ⟨he, r⟩ => ⟨he, _, _, r⟩)
      · by_cases h2 : (xs.length : Int) ≤ n
        · exact (do_set_high n x h (by omega) h2).mono (fun e w' ⟨he, r⟩ => ⟨he, _, _, r⟩)
        · obtain ⟨k, rfl⟩ := Int.eq_ofNat_of_zero_le (show 0 ≤ n by omega)
          exact (do_set k x h hlim hx (by omega)).mono (fun e w' ⟨he, r⟩ => ⟨he, _, _, r⟩)
    · by_cases h1 : n < 0 ∨ (xs.length : Int) < n
      · exact (do_cut_no n x h hlim h1).mono (fun e w' ⟨he, r⟩ => ⟨he, _, _, r⟩)
      · obtain ⟨k, rfl⟩ := Int.eq_ofNat_of_zero_le (show 0 ≤ n by omega)
        exact (do_cut k x h hlim (by omega)).mono (fun e w' ⟨he, r⟩ => ⟨he, _, _, r⟩)
    · by_cases h1 : n < 0
      · exact (do_grow_low n x h hlim h1).mono (fun e w' ⟨he, r⟩ => ⟨he, _, _, r⟩)
      · by_cases h2 : lim - (xs.length : Int) < n
        · exact (do_grow_full n x h hlim (by omega) h2).mono (fun e w' ⟨he, r⟩ => ⟨he, _, _, r⟩)
        · obtain ⟨k, rfl⟩ := Int.eq_ofNat_of_zero_le (show 0 ≤ n by omega)
          exact (do_grow k x h hlim (by omega)).mono (fun e w' ⟨he, r⟩ => ⟨he, _, _, r⟩)
    · exact (do_kept n x h hlim).mono (fun e w' ⟨he, r⟩ => ⟨he, _, _, r⟩)
end
end Go.Proofs.Ytghegbdnecobkaa.rooms
