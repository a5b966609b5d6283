/- One call of both rooms. -/
import Derived.Test.YtghegbdnecobkaaRoom12
import Derived.Deep.RegionWith
import Derived.Deep.RegionHeld3
namespace Go.Proofs.Ytghegbdnecobkaa.rooms
open Go.RowKit
section
variable {B b rb : Nat} {lim : Int} {xs : List Int} {most : Int} {ao : Option Addr} {cap : Nat} {rao : Option Addr} {rcap : Nat} {w : World}

theorem Only.drew (S : Nat → Prop) (w : World) : Only S w w.drew := ⟨rfl, rfl, rfl, Nat.le_refl _, fun _ _ _ => rfl⟩
theorem Both.refl_ref (h : Both B b rb lim xs most ao cap rao rcap w) {w2 : World} (o2 : Only (Mine b ao) w w2) : RefP B rb rao rcap xs lim most w2 := h.ref.only o2 (fun j hj hm => h.apart j hm hj)
theorem Both.stepped (h : Both B b rb lim xs most ao cap rao rcap w) {ys : List Int} {most' : Int} {ao' rao' : Option Addr} {cap' rcap' : Nat} {w2 w3 : World} (r2 : RoomP B b ao' cap' ys lim most' w2) (o2 : Only (Mine b ao) w w2) (n2 : NewRow w.heap.size ao ao')
    (r3 : RefP B rb rao' rcap' ys lim most' w3) (o3 : Only (Mine rb rao) w2 w3) (n3 : NewRow w2.heap.size rao rao') (hl : (ys.length : Int) ≤ lim) (hf : ∀ x ∈ ys, 0 ≤ x ∧ x < 18446744073709551616) :
    Both B b rb lim ys most' ao' cap' rao' rcap' w3 ∧ Below B w w3 := by
  have hlt := h.lt
  have h1 : ∀ j, Mine b ao' j → ¬ Mine rb rao j := by
    intro j hj hm
    rcases mine_new n2 hj with h2 | h2
    · exact h.apart j h2 hm
    · have := hlt j (.inr hm)
      omega
  refine ⟨⟨r2.only o3 h1, r3, fun j hj hm => ?_, hl, hf⟩, (h.room.keeps o2).trans ((h.refl_ref o2).keeps o3)⟩
  rcases mine_new n3 hm with h2 | h2
  · exact h1 j hj h2
  · have := (r2.mine_lt j hj).2
    omega
/-- A cell of a new block keeps. -/
theorem Both.cellNew (h : Both B b rb lim xs most ao cap rao rcap w) {W w2 : World} {p : Addr} (hW : w.heap.size < W.heap.size) (hp : p.block = w.heap.size) {S : Nat → Prop} (hS : ∀ j, S j → Mine b ao j ∨ Mine rb rao j) (o : Only S W w2) : w2.cell? p = W.cell? p :=
  o.cell (by omega) (fun e => by have := h.lt _ (hS _ e); omega)
/-- The world with the law's call laid. -/
abbrev opNew (w : World) (k n x : Int) : World := w.alloc (Obj.cells #[Value.int .i64 k, Value.int .i64 n, Value.int .u64 x] 33)
theorem Both.laid (h : Both B b rb lim xs most ao cap rao rcap w) (k n x : Int) {w1 : World} (e : opNew w k n x = w1) : Both B b rb lim xs most ao cap rao rcap w1 ∧ Below B w w1 ∧ w.heap.size < w1.heap.size ∧ w1.cell? ⟨w.heap.size, 1, none⟩ = some (.int .i64 n) ∧ w1.cell? ⟨w.heap.size, 2, none⟩ = some (.int .u64 x) := by
  subst e
  have o : Only (fun _ => False) w (opNew w k n x) := Only.alloc _ _ _
  exact ⟨h.only o, o.below (Nat.le_trans h.room.low (Nat.le_of_lt h.room.lt)) (fun _ _ e => e.elim), by simp [opNew], by simp [opNew], by simp [opNew]⟩

theorem do_push (n x : Int) (h : Both B b rb lim xs most ao cap rao rcap w) (hlim : lim ≤ 1048576) (hx : 0 ≤ x ∧ x < 18446744073709551616) (hl : (xs.length : Int) < lim) :
    Calls Try.prog 11 #[.pointer (some ⟨b, 0, none⟩), .pointer (some ⟨rb, 0, none⟩), .agg #[.int .i64 1, .int .i64 n, .int .u64 x]] w fun e w' => e = .returned (.bool true) ∧
      ∃ ao' cap' rao' rcap', Both B b rb lim (xs ++ [x]) (max most ((xs ++ [x]).length : Nat)) ao' cap' rao' rcap' w' ∧ Below B w w' := by
  have H := Lib.hid h
  have hle0 := h.le
  clear h
  go_enter Try.func11, Try.ntmps11
  go_wp2_with fail
  generalize hw1 : w.alloc (Obj.cells #[Value.int IntKind.i64 1, Value.int IntKind.i64 n, Value.int IntKind.u64 x] 33) = w1
  obtain ⟨hb1, hB1, hs1, c1, c2⟩ := H.out.laid 1 n x hw1
  have H1 := Lib.hid (hb1.only (Only.drew _ w1))
  have HB1 := Lib.hid (hB1.trans ((Only.drew (fun _ => False) w1).below (Nat.le_trans hb1.room.low (Nat.le_of_lt hb1.room.lt)) (fun _ _ e => e.elim)))
  clear hw1 hb1 hB1
  go_region_held3 (fun w' => w'.cell? ⟨w.heap.size, 2, none⟩ = some (.int .u64 x)) (go_keep) (first
    | (go_at_call 17; refine (push_some (x := x) H1.out.room hl hlim).mono ?_; rintro e w2 ⟨rfl, ao2, cap2, r2, o2, n2⟩; have R2 := Lib.hid r2; have O2 := Lib.hid o2; have N2 := Lib.hid n2; clear r2 o2 n2; have F2 := Lib.hid (H1.out.refl_ref O2.out); have c2' : w2.cell? ⟨w.heap.size, 2, none⟩ = some (.int .u64 x) := (H.out.cellNew (W := w1.drew) hs1 rfl (fun _ e => .inl e) O2.out).trans c2)
    | (go_at_call 26; refine (rpush_some (x := x) F2.out hl hlim).mono ?_; rintro e w3 ⟨rfl, ao3, cap3, r3, o3, n3⟩; have R3 := Lib.hid r3; have O3 := Lib.hid o3; have N3 := Lib.hid n3; clear r3 o3 n3; have c3' : w3.cell? ⟨w.heap.size, 2, none⟩ = some (.int .u64 x) := (H.out.cellNew (W := w2) (Nat.lt_of_lt_of_le hs1 O2.out.size) rfl (fun _ e => .inr e) O3.out).trans c2'))
  go_wp2_with fail
  go_ret
  obtain ⟨hb, hbel⟩ := H1.out.stepped R2.out O2.out N2.out R3.out O3.out N3.out (by simp; omega) (fun y hy => by rcases List.mem_append.1 hy with h | h; exact H.out.fits y h; simp at h; subst h; exact hx)
  exact ⟨rfl, _, _, _, _, hb, HB1.out.trans hbel⟩

theorem do_push_full (n x : Int) (h : Both B b rb lim xs most ao cap rao rcap w) (hlim : lim ≤ 1048576) (hl : lim ≤ (xs.length : Int)) :
    Calls Try.prog 11 #[.pointer (some ⟨b, 0, none⟩), .pointer (some ⟨rb, 0, none⟩), .agg #[.int .i64 1, .int .i64 n, .int .u64 x]] w fun e w' => e = .returned (.bool true) ∧
      ∃ ao' cap' rao' rcap', Both B b rb lim xs most ao' cap' rao' rcap' w' ∧ Below B w w' := by
  have H := Lib.hid h
  have hle0 := h.le
  clear h
  go_enter Try.func11, Try.ntmps11
  go_wp2_with fail
  generalize hw1 : w.alloc (Obj.cells #[Value.int IntKind.i64 1, Value.int IntKind.i64 n, Value.int IntKind.u64 x] 33) = w1
  obtain ⟨hb1, hB1, hs1, c1, c2⟩ := H.out.laid 1 n x hw1
  have H1 := Lib.hid (hb1.only (Only.drew _ w1))
  have HB1 := Lib.hid (hB1.trans ((Only.drew (fun _ => False) w1).below (Nat.le_trans hb1.room.low (Nat.le_of_lt hb1.room.lt)) (fun _ _ e => e.elim)))
  clear hw1 hb1 hB1
  go_region_held3 (fun w' => w'.cell? ⟨w.heap.size, 2, none⟩ = some (.int .u64 x)) (go_keep) (first
    | (go_at_call 17; refine (push_full (x := x) H1.out.room hl).mono ?_; rintro e w2 ⟨rfl, o2⟩; have R2 := Lib.hid (H1.out.room.only o2 (fun _ _ e => e)); have O2 := Lib.hid (o2.no (Mine b ao)); have N2 := Lib.hid (NewRow.refl w1.drew.heap.size ao); clear o2; have F2 := Lib.hid (H1.out.refl_ref O2.out); have c2' : w2.cell? ⟨w.heap.size, 2, none⟩ = some (.int .u64 x) := (H.out.cellNew (W := w1.drew) hs1 rfl (fun _ e => .inl e) O2.out).trans c2)
    | (go_at_call 26; refine (rpush_full (x := x) F2.out hl).mono ?_; rintro e w3 ⟨rfl, o3⟩; have R3 := Lib.hid (F2.out.only o3 (fun _ _ e => e)); have O3 := Lib.hid (o3.no (Mine rb rao)); have N3 := Lib.hid (NewRow.refl w2.heap.size rao); clear o3; have c3' : w3.cell? ⟨w.heap.size, 2, none⟩ = some (.int .u64 x) := (H.out.cellNew (W := w2) (Nat.lt_of_lt_of_le hs1 O2.out.size) rfl (fun _ e => .inr e) O3.out).trans c2'))
  go_wp2_with fail
  go_ret
  obtain ⟨hb, hbel⟩ := H1.out.stepped R2.out O2.out N2.out R3.out O3.out N3.out hle0 H.out.fits
  exact ⟨rfl, _, _, _, _, hb, HB1.out.trans hbel⟩

theorem do_cut_no (n x : Int) (h : Both B b rb lim xs most ao cap rao rcap w) (hlim : lim ≤ 1048576) (hn : n < 0 ∨ (xs.length : Int) < n) :
    Calls Try.prog 11 #[.pointer (some ⟨b, 0, none⟩), .pointer (some ⟨rb, 0, none⟩), .agg #[.int .i64 5, .int .i64 n, .int .u64 x]] w fun e w' => e = .returned (.bool true) ∧
      ∃ ao' cap' rao' rcap', Both B b rb lim xs most ao' cap' rao' rcap' w' ∧ Below B w w' := by
  have H := Lib.hid h
  have hle0 := h.le
  clear h
  go_enter Try.func11, Try.ntmps11
  go_wp2_with fail
  generalize hw1 : w.alloc (Obj.cells #[Value.int IntKind.i64 5, Value.int IntKind.i64 n, Value.int IntKind.u64 x] 33) = w1
  obtain ⟨hb1, hB1, hs1, c1, c2⟩ := H.out.laid 5 n x hw1
  have H1 := Lib.hid (hb1.only (Only.drew _ w1))
  have HB1 := Lib.hid (hB1.trans ((Only.drew (fun _ => False) w1).below (Nat.le_trans hb1.room.low (Nat.le_of_lt hb1.room.lt)) (fun _ _ e => e.elim)))
  clear hw1 hb1 hB1
  go_region_held3 (fun w' => w'.cell? ⟨w.heap.size, 1, none⟩ = some (.int .i64 n)) (go_keep) (first
    | (go_at_call 21; refine (cut_no n H1.out.room hn).mono ?_; rintro e w2 ⟨rfl, rfl⟩; have R2 := Lib.hid H1.out.room; have O2 := Lib.hid (Only.refl (Mine b ao) w1.drew); have N2 := Lib.hid (NewRow.refl w1.drew.heap.size ao); have F2 := Lib.hid (H1.out.refl_ref O2.out); have c2' : w1.drew.cell? ⟨w.heap.size, 1, none⟩ = some (.int .i64 n) := (H.out.cellNew (W := w1.drew) hs1 rfl (fun _ e => .inl e) O2.out).trans c1)
    | (go_at_call 28; refine (rcut_no n F2.out hn).mono ?_; rintro e w3 ⟨rfl, rfl⟩; have R3 := Lib.hid F2.out; have O3 := Lib.hid (Only.refl (Mine rb rao) w1.drew); have N3 := Lib.hid (NewRow.refl w1.drew.heap.size rao); have c3' : w1.drew.cell? ⟨w.heap.size, 1, none⟩ = some (.int .i64 n) := (H.out.cellNew (W := w1.drew) (Nat.lt_of_lt_of_le hs1 O2.out.size) rfl (fun _ e => .inr e) O3.out).trans c2'))
  go_wp2_with fail
  go_ret
  obtain ⟨hb, hbel⟩ := H1.out.stepped R2.out O2.out N2.out R3.out O3.out N3.out hle0 H.out.fits
  exact ⟨rfl, _, _, _, _, hb, HB1.out.trans hbel⟩

theorem do_cut (k : Nat) (x : Int) (h : Both B b rb lim xs most ao cap rao rcap w) (hlim : lim ≤ 1048576) (hn : k ≤ xs.length) :
    Calls Try.prog 11 #[.pointer (some ⟨b, 0, none⟩), .pointer (some ⟨rb, 0, none⟩), .agg #[.int .i64 5, .int .i64 k, .int .u64 x]] w fun e w' => e = .returned (.bool true) ∧
      ∃ ao' cap' rao' rcap', Both B b rb lim (xs.take k) most ao' cap' rao' rcap' w' ∧ Below B w w' := by
  have H := Lib.hid h
  have hle0 := h.le
  clear h
  go_enter Try.func11, Try.ntmps11
  go_wp2_with fail
  generalize hw1 : w.alloc (Obj.cells #[Value.int IntKind.i64 5, Value.int IntKind.i64 (k : Int), Value.int IntKind.u64 x] 33) = w1
  obtain ⟨hb1, hB1, hs1, c1, c2⟩ := H.out.laid 5 k x hw1
  have H1 := Lib.hid (hb1.only (Only.drew _ w1))
  have HB1 := Lib.hid (hB1.trans ((Only.drew (fun _ => False) w1).below (Nat.le_trans hb1.room.low (Nat.le_of_lt hb1.room.lt)) (fun _ _ e => e.elim)))
  clear hw1 hb1 hB1
  go_region_held3 (fun w' => w'.cell? ⟨w.heap.size, 1, none⟩ = some (.int .i64 k)) (go_keep) (first
    | (go_at_call 21; refine (cut_yes k H1.out.room hn (by omega)).mono ?_; rintro e w2 ⟨rfl, r2, o2⟩; have R2 := Lib.hid r2; have O2 := Lib.hid (show Only (Mine b ao) _ _ from o2.struct); have N2 := Lib.hid (NewRow.refl w1.drew.heap.size ao); clear r2 o2; have F2 := Lib.hid (H1.out.refl_ref O2.out); have c2' : w2.cell? ⟨w.heap.size, 1, none⟩ = some (.int .i64 k) := (H.out.cellNew (W := w1.drew) hs1 rfl (fun _ e => .inl e) O2.out).trans c1)
    | (go_at_call 28; refine (rcut_yes k F2.out hn (by omega)).mono ?_; rintro e w3 ⟨rfl, r3, o3⟩; have R3 := Lib.hid r3; have O3 := Lib.hid (show Only (Mine rb rao) _ _ from o3.struct); have N3 := Lib.hid (NewRow.refl w2.heap.size rao); clear r3 o3; have c3' : w3.cell? ⟨w.heap.size, 1, none⟩ = some (.int .i64 k) := (H.out.cellNew (W := w2) (Nat.lt_of_lt_of_le hs1 O2.out.size) rfl (fun _ e => .inr e) O3.out).trans c2'))
  go_wp2_with fail
  go_ret
  obtain ⟨hb, hbel⟩ := H1.out.stepped R2.out O2.out N2.out R3.out O3.out N3.out (by rw [List.length_take]; omega) (fun y hy => H.out.fits y (List.mem_of_mem_take hy))
  exact ⟨rfl, _, _, _, _, hb, HB1.out.trans hbel⟩

theorem do_grow_low (n x : Int) (h : Both B b rb lim xs most ao cap rao rcap w) (hlim : lim ≤ 1048576) (hn : n < 0) :
    Calls Try.prog 11 #[.pointer (some ⟨b, 0, none⟩), .pointer (some ⟨rb, 0, none⟩), .agg #[.int .i64 6, .int .i64 n, .int .u64 x]] w fun e w' => e = .returned (.bool true) ∧
      ∃ ao' cap' rao' rcap', Both B b rb lim xs most ao' cap' rao' rcap' w' ∧ Below B w w' := by
  have H := Lib.hid h
  have hle0 := h.le
  clear h
  go_enter Try.func11, Try.ntmps11
  go_wp2_with fail
  generalize hw1 : w.alloc (Obj.cells #[Value.int IntKind.i64 6, Value.int IntKind.i64 n, Value.int IntKind.u64 x] 33) = w1
  obtain ⟨hb1, hB1, hs1, c1, c2⟩ := H.out.laid 6 n x hw1
  have H1 := Lib.hid (hb1.only (Only.drew _ w1))
  have HB1 := Lib.hid (hB1.trans ((Only.drew (fun _ => False) w1).below (Nat.le_trans hb1.room.low (Nat.le_of_lt hb1.room.lt)) (fun _ _ e => e.elim)))
  clear hw1 hb1 hB1
  go_region_held3 (fun w' => w'.cell? ⟨w.heap.size, 1, none⟩ = some (.int .i64 n)) (go_keep) (first
    | (go_at_call 22; refine (grow_low n H1.out.room hn).mono ?_; rintro e w2 ⟨rfl, rfl⟩; have R2 := Lib.hid H1.out.room; have O2 := Lib.hid (Only.refl (Mine b ao) w1.drew); have N2 := Lib.hid (NewRow.refl w1.drew.heap.size ao); have F2 := Lib.hid (H1.out.refl_ref O2.out); have c2' : w1.drew.cell? ⟨w.heap.size, 1, none⟩ = some (.int .i64 n) := (H.out.cellNew (W := w1.drew) hs1 rfl (fun _ e => .inl e) O2.out).trans c1)
    | (go_at_call 29; refine (rgrow_low n hn).mono ?_; rintro e w3 ⟨rfl, rfl⟩; have R3 := Lib.hid F2.out; have O3 := Lib.hid (Only.refl (Mine rb rao) w1.drew); have N3 := Lib.hid (NewRow.refl w1.drew.heap.size rao); have c3' : w1.drew.cell? ⟨w.heap.size, 1, none⟩ = some (.int .i64 n) := (H.out.cellNew (W := w1.drew) (Nat.lt_of_lt_of_le hs1 O2.out.size) rfl (fun _ e => .inr e) O3.out).trans c2'))
  go_wp2_with fail
  go_ret
  obtain ⟨hb, hbel⟩ := H1.out.stepped R2.out O2.out N2.out R3.out O3.out N3.out hle0 H.out.fits
  exact ⟨rfl, _, _, _, _, hb, HB1.out.trans hbel⟩

theorem do_grow_full (n x : Int) (h : Both B b rb lim xs most ao cap rao rcap w) (hlim : lim ≤ 1048576) (hn : 0 ≤ n) (hf : lim - (xs.length : Int) < n) :
    Calls Try.prog 11 #[.pointer (some ⟨b, 0, none⟩), .pointer (some ⟨rb, 0, none⟩), .agg #[.int .i64 6, .int .i64 n, .int .u64 x]] w fun e w' => e = .returned (.bool true) ∧
      ∃ ao' cap' rao' rcap', Both B b rb lim xs most ao' cap' rao' rcap' w' ∧ Below B w w' := by
  have H := Lib.hid h
  have hle0 := h.le
  clear h
  go_enter Try.func11, Try.ntmps11
  go_wp2_with fail
  generalize hw1 : w.alloc (Obj.cells #[Value.int IntKind.i64 6, Value.int IntKind.i64 n, Value.int IntKind.u64 x] 33) = w1
  obtain ⟨hb1, hB1, hs1, c1, c2⟩ := H.out.laid 6 n x hw1
  have H1 := Lib.hid (hb1.only (Only.drew _ w1))
  have HB1 := Lib.hid (hB1.trans ((Only.drew (fun _ => False) w1).below (Nat.le_trans hb1.room.low (Nat.le_of_lt hb1.room.lt)) (fun _ _ e => e.elim)))
  clear hw1 hb1 hB1
  go_region_held3 (fun w' => w'.cell? ⟨w.heap.size, 1, none⟩ = some (.int .i64 n)) (go_keep) (first
    | (go_at_call 22; refine (grow_full n H1.out.room hn hf (by omega) hlim (by omega)).mono ?_; rintro e w2 ⟨rfl, o2⟩; have R2 := Lib.hid (H1.out.room.only o2 (fun _ _ e => e)); have O2 := Lib.hid (o2.no (Mine b ao)); have N2 := Lib.hid (NewRow.refl w1.drew.heap.size ao); clear o2; have F2 := Lib.hid (H1.out.refl_ref O2.out); have c2' : w2.cell? ⟨w.heap.size, 1, none⟩ = some (.int .i64 n) := (H.out.cellNew (W := w1.drew) hs1 rfl (fun _ e => .inl e) O2.out).trans c1)
    | (go_at_call 29; refine (rgrow_full n F2.out hn hf (by omega) hlim (by omega)).mono ?_; rintro e w3 ⟨rfl, o3⟩; have R3 := Lib.hid (F2.out.only o3 (fun _ _ e => e)); have O3 := Lib.hid (o3.no (Mine rb rao)); have N3 := Lib.hid (NewRow.refl w2.heap.size rao); clear o3; have c3' : w3.cell? ⟨w.heap.size, 1, none⟩ = some (.int .i64 n) := (H.out.cellNew (W := w2) (Nat.lt_of_lt_of_le hs1 O2.out.size) rfl (fun _ e => .inr e) O3.out).trans c2'))
  go_wp2_with fail
  go_ret
  obtain ⟨hb, hbel⟩ := H1.out.stepped R2.out O2.out N2.out R3.out O3.out N3.out hle0 H.out.fits
  exact ⟨rfl, _, _, _, _, hb, HB1.out.trans hbel⟩

theorem do_grow (k : Nat) (x : Int) (h : Both B b rb lim xs most ao cap rao rcap w) (hlim : lim ≤ 1048576) (hn : (k : Int) ≤ lim - (xs.length : Int)) :
    Calls Try.prog 11 #[.pointer (some ⟨b, 0, none⟩), .pointer (some ⟨rb, 0, none⟩), .agg #[.int .i64 6, .int .i64 k, .int .u64 x]] w fun e w' => e = .returned (.bool true) ∧
      ∃ ao' cap' rao' rcap', Both B b rb lim (xs ++ List.replicate k 0) (max most ((xs ++ List.replicate k 0).length : Nat)) ao' cap' rao' rcap' w' ∧ Below B w w' := by
  have H := Lib.hid h
  have hle0 := h.le
  clear h
  go_enter Try.func11, Try.ntmps11
  go_wp2_with fail
  generalize hw1 : w.alloc (Obj.cells #[Value.int IntKind.i64 6, Value.int IntKind.i64 (k : Int), Value.int IntKind.u64 x] 33) = w1
  obtain ⟨hb1, hB1, hs1, c1, c2⟩ := H.out.laid 6 k x hw1
  have H1 := Lib.hid (hb1.only (Only.drew _ w1))
  have HB1 := Lib.hid (hB1.trans ((Only.drew (fun _ => False) w1).below (Nat.le_trans hb1.room.low (Nat.le_of_lt hb1.room.lt)) (fun _ _ e => e.elim)))
  clear hw1 hb1 hB1
  go_region_held3 (fun w' => w'.cell? ⟨w.heap.size, 1, none⟩ = some (.int .i64 k)) (go_keep) (first
    | (go_at_call 22; refine (grow_some k H1.out.room hn hlim (by omega)).mono ?_; rintro e w2 ⟨rfl, ao2, cap2, r2, o2, n2⟩; have R2 := Lib.hid r2; have O2 := Lib.hid o2; have N2 := Lib.hid n2; clear r2 o2 n2; have F2 := Lib.hid (H1.out.refl_ref O2.out); have c2' : w2.cell? ⟨w.heap.size, 1, none⟩ = some (.int .i64 k) := (H.out.cellNew (W := w1.drew) hs1 rfl (fun _ e => .inl e) O2.out).trans c1)
    | (go_at_call 29; refine (rgrow_some k F2.out hn hlim (by omega)).mono ?_; rintro e w3 ⟨rfl, ao3, cap3, r3, o3, n3⟩; have R3 := Lib.hid r3; have O3 := Lib.hid o3; have N3 := Lib.hid n3; clear r3 o3 n3; have c3' : w3.cell? ⟨w.heap.size, 1, none⟩ = some (.int .i64 k) := (H.out.cellNew (W := w2) (Nat.lt_of_lt_of_le hs1 O2.out.size) rfl (fun _ e => .inr e) O3.out).trans c2'))
  go_wp2_with fail
  go_ret
  obtain ⟨hb, hbel⟩ := H1.out.stepped R2.out O2.out N2.out R3.out O3.out N3.out (by simp; omega) (fun y hy => by rcases List.mem_append.1 hy with h | h; exact H.out.fits y h; rw [(List.mem_replicate.1 h).2]; omega)
  exact ⟨rfl, _, _, _, _, hb, HB1.out.trans hbel⟩

end
end Go.Proofs.Ytghegbdnecobkaa.rooms
