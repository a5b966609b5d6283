/- Terms: what must come of every program: its last statement. -/
import Derived.Test.YtdpbbcjlbnangaaTerm49
import Derived.Deep.RegionHeld3
namespace Go.Proofs.Ytdpbbcjlbnangaa.terms
open Go.RowKit Go.Proofs.Ytdpbbcjlbnangaa.own Go.Maps
/-- All that lives has, once it is there. -/
structure LivS (b1 b2 b5 b6 bl ol g : Nat) (a1 a2 a6 : Option Addr) (c1 c2 c6 : Nat) (W : World) : Prop where
  t : Held b1 tC a1 c1 W
  u : Held b2 uC a2 c2 W
  v : Held b6 vC a6 c6 W
  s : W.cell? ⟨b5, 2, none⟩ = some (.string ⟨#[91, 93]⟩) ∧ b5 < W.heap.size
  n : W.cell? ⟨bl, ol + 1, none⟩ = some (.int .i64 1) ∧ bl < W.heap.size
  x0 : W.cell? ⟨g, 0, none⟩ = some (.int .i64 7) ∧ g < W.heap.size
  x1 : W.cell? ⟨g, 1, none⟩ = some (.int .i64 3)
theorem LivS.later {b1 b2 b5 b6 bl ol g : Nat} {a1 a2 a6 : Option Addr} {c1 c2 c6 : Nat} {W W' : World} (h : LivS b1 b2 b5 b6 bl ol g a1 a2 a6 c1 c2 c6 W) (ho : Only (fun _ => False) W W') : LivS b1 b2 b5 b6 bl ol g a1 a2 a6 c1 c2 c6 W' :=
  ⟨h.t.later ho, h.u.later ho, h.v.later ho, ⟨(ho.cell (p := ⟨b5, 2, none⟩) h.s.2 (fun e => e)).trans h.s.1, Nat.lt_of_lt_of_le h.s.2 ho.size⟩, ⟨(ho.cell (p := ⟨bl, ol + 1, none⟩) h.n.2 (fun e => e)).trans h.n.1, Nat.lt_of_lt_of_le h.n.2 ho.size⟩, ⟨(ho.cell (p := ⟨g, 0, none⟩) h.x0.2 (fun e => e)).trans h.x0.1, Nat.lt_of_lt_of_le h.x0.2 ho.size⟩, (ho.cell (p := ⟨g, 1, none⟩) h.x0.2 (fun e => e)).trans h.x1⟩
abbrev Liv16 (b1 b2 b5 b6 bl ol g : Nat) (a1 a2 a6 : Option Addr) (c1 c2 c6 : Nat) (W : World) : Prop :=
  W.cell? ⟨b1, 0, none⟩ = some (.int .i64 tC.k) ∧ W.cell? ⟨b1, 1, none⟩ = some (.int .i64 tC.n) ∧ W.cell? ⟨b1, 2, none⟩ = some (.string tC.s) ∧ W.cell? ⟨b1, 3, none⟩ = some (.slice a1 tC.l.length c1) ∧
  W.cell? ⟨b2, 0, none⟩ = some (.int .i64 uC.k) ∧ W.cell? ⟨b2, 1, none⟩ = some (.int .i64 uC.n) ∧ W.cell? ⟨b2, 2, none⟩ = some (.string uC.s) ∧ W.cell? ⟨b2, 3, none⟩ = some (.slice a2 uC.l.length c2) ∧
  W.cell? ⟨b6, 0, none⟩ = some (.int .i64 vC.k) ∧ W.cell? ⟨b6, 1, none⟩ = some (.int .i64 vC.n) ∧ W.cell? ⟨b6, 2, none⟩ = some (.string vC.s) ∧ W.cell? ⟨b6, 3, none⟩ = some (.slice a6 vC.l.length c6) ∧
  W.cell? ⟨b5, 2, none⟩ = some (.string ⟨#[91, 93]⟩) ∧ W.cell? ⟨bl, ol + 1, none⟩ = some (.int .i64 1) ∧ W.cell? ⟨g, 0, none⟩ = some (.int .i64 7) ∧ W.cell? ⟨g, 1, none⟩ = some (.int .i64 3)
theorem LivS.all {b1 b2 b5 b6 bl ol g : Nat} {a1 a2 a6 : Option Addr} {c1 c2 c6 : Nat} {W : World} (h : LivS b1 b2 b5 b6 bl ol g a1 a2 a6 c1 c2 c6 W) : Liv16 b1 b2 b5 b6 bl ol g a1 a2 a6 c1 c2 c6 W := by
  obtain ⟨p0, p1, p2, p3⟩ := h.t.q.cells
  obtain ⟨q0, q1, q2, q3⟩ := h.u.q.cells
  obtain ⟨r0, r1, r2, r3⟩ := h.v.q.cells
  exact ⟨p0, p1, p2, p3, q0, q1, q2, q3, r0, r1, r2, r3, h.s.1, h.n.1, h.x0.1, h.x1⟩
def regionAt (n : Nat) : Code → Option Code
  | .region id ops b => if id == n then some (.region id ops b) else none
  | .seq a b => match regionAt n a with
    | some c => some c
    | none => regionAt n b
  | .block _ c => regionAt n c
  | .scope c => regionAt n c
  | .cond _ a b => match regionAt n a with
    | some c => some c
    | none => regionAt n b
  | _ => none
noncomputable def livesLast : Code := ((Try.f11.body.bind (regionAt 6)).getD .skip)
noncomputable def livesOps : Array Oper := match livesLast with | .region _ ops _ => ops | _ => #[]
set_option maxRecDepth 1000000 in
set_option maxHeartbeats 16000000 in
theorem lives_lastB {w wd : World} {b1 b2 b5 b6 bl ol g lc oc : Nat} {a0 a1 a4 : Option Addr} {c0 c1 c4 : Nat} {Q : Exit → Act → World → Prop} (u0 u8 u9 u10 u11 u12 u13 u14 u15 u16 u17 u18 u19 u20 u21 u22 u23 u24 u25 u26 u27 u28 u29 u30 u31 u32 u33 u34 u35 u36 u37 u38 u39 u40 u41 u42 u43 u44 u45 u46 u47 u48 u49 u50 u51 u52 u53 u54 u55 u56 u57 u58 u59 u60 u61 u62 u63 u64 u65 u66 u67 u68 u70 u71 u72 u73 u74 u75 u76 u77 u78 u79 u80 u81 u82 u83 u84 u85 u86 u87 u88 u89 u90 u91 u92 u93 u94 u95 u96 u97 u98 u99 u100 u101 u102 u103 u104 u105 u106 u107 u108 u109 u110 u111 u112 u113 u114 u115 u116 u117 u118 u119 u120 u121 u122 : Value) (hA : LivS b1 b2 b5 b6 bl ol g a0 a1 a4 c0 c1 c4 wd) (ho : Only (fun _ => False) w wd) (hQ : ∀ a' W', a'.tmps.getD 0 undef = .bool true → a'.defers = [] → Only (fun _ => False) w W' → Q .normal a' W') : wpAnyH Try.prog .any livesOps (NoPanic Q) (fun w' : World => w'.cell? ⟨b1, 0, none⟩ = some (.int .i64 tC.k) ∧ w'.cell? ⟨b1, 1, none⟩ = some (.int .i64 tC.n) ∧ w'.cell? ⟨b1, 2, none⟩ = some (.string tC.s) ∧ w'.cell? ⟨b1, 3, none⟩ = some (.slice a0 tC.l.length c0) ∧   w'.cell? ⟨b2, 0, none⟩ = some (.int .i64 uC.k) ∧ w'.cell? ⟨b2, 1, none⟩ = some (.int .i64 uC.n) ∧ w'.cell? ⟨b2, 2, none⟩ = some (.string uC.s) ∧ w'.cell? ⟨b2, 3, none⟩ = some (.slice a1 uC.l.length c1) ∧   w'.cell? ⟨b6, 0, none⟩ = some (.int .i64 vC.k) ∧ w'.cell? ⟨b6, 1, none⟩ = some (.int .i64 vC.n) ∧ w'.cell? ⟨b6, 2, none⟩ = some (.string vC.s) ∧ w'.cell? ⟨b6, 3, none⟩ = some (.slice a4 vC.l.length c4) ∧   w'.cell? ⟨b5, 2, none⟩ = some (.string ⟨#[91, 93]⟩) ∧ w'.cell? ⟨bl, ol + 1, none⟩ = some (.int .i64 1) ∧ w'.cell? ⟨g, 0, none⟩ = some (.int .i64 7) ∧ w'.cell? ⟨g, 1, none⟩ = some (.int .i64 3)) 54 ((((((((((((((((((((((((((((((((((((((Array.replicate 91 false).setIfInBounds 0 true).setIfInBounds 1 true).setIfInBounds 2 true).setIfInBounds 3 true).setIfInBounds 4 true).setIfInBounds 5 true).setIfInBounds 6 true).setIfInBounds 7 true).setIfInBounds 8 true).setIfInBounds 9 true).setIfInBounds 10 true).setIfInBounds 11 true).setIfInBounds 12 true).setIfInBounds 13 true).setIfInBounds 14 true).setIfInBounds 15 true).setIfInBounds 16 true).setIfInBounds 17 true).setIfInBounds 18 true).setIfInBounds 19 true).setIfInBounds 20 true).setIfInBounds 21 true).setIfInBounds 22 true).setIfInBounds 23 true).setIfInBounds 24 true).setIfInBounds 25 true).setIfInBounds 26 true).setIfInBounds 27 true).setIfInBounds 28 true).setIfInBounds 29 true).setIfInBounds 30 true).setIfInBounds 31 true).setIfInBounds 32 true).setIfInBounds 33 true).setIfInBounds 34 true).setIfInBounds 35 true).setIfInBounds 36 true) { tmps := #[u0, .pointer (some ⟨b1, 0, none⟩), .pointer (some ⟨b2, 0, none⟩), .int .i64 2, .slice (some ⟨bl, ol, none⟩) 2 lc, .pointer (some ⟨b5, 0, none⟩), .pointer (some ⟨b6, 0, none⟩), .slice (some ⟨g, 0, none⟩) 2 oc, u8, u9, u10, u11, u12, u13, u14, u15, u16, u17, u18, u19, u20, u21, u22, u23, u24, u25, u26, u27, u28, u29, u30, u31, u32, u33, u34, u35, u36, u37, u38, u39, u40, u41, u42, u43, u44, u45, u46, u47, u48, u49, u50, u51, u52, u53, u54, u55, u56, u57, u58, u59, u60, u61, u62, u63, u64, u65, u66, u67, u68, .bool true, u70, u71, u72, u73, u74, u75, u76, u77, u78, u79, u80, u81, u82, u83, u84, u85, u86, u87, u88, u89, u90, u91, u92, u93, u94, u95, u96, u97, u98, u99, u100, u101, u102, u103, u104, u105, u106, u107, u108, u109, u110, u111, u112, u113, u114, u115, u116, u117, u118, u119, u120, u121, u122], defers := [] } wd := by
  have HA := Lib.hid (show LivS b1 b2 b5 b6 bl ol g a0 a1 a4 c0 c1 c4 wd ∧ Only (fun _ => False) w wd from ⟨hA, ho⟩)
  have HQ := Lib.hid hQ
  clear hA ho hQ
  have hk0 : (0 : Int) < ((2 : Nat) : Int) := by omega
  have hk1 : (1 : Int) < ((2 : Nat) : Int) := by omega
  have hHeld := HA.out.1.all
  conv => arg 3; whnf
  simp only [List.append]
  refine wpAnyH_take (i := 37) (oi := { dst := some 70, op := Op.move (Operand.tmp 69), type := 4, pos := "law.go:17", after := #[{ on := 36, ground := Ground.data }, { on := 35, ground := Ground.chain }], guard := none }) (v := ?_) rfl (by kernel_rfl) (by kernel_rfl) (by kernel_rfl) (fun _ _ _ h => h) (Or.inl ⟨by rfl, ?_⟩) hHeld ?_
  rotate_left
  · (intro wq hSw; (try dsimp only at hSw); go_simp; try with_reducible rfl)
  try simp only [Act.put, List.setIfInBounds_toArray, List.set_cons_zero, List.set_cons_succ]
  refine wpAnyH_take (i := 38) (oi := { dst := some 71, op := Op.move (Operand.tmp 7), type := 37, pos := "law.go:17", after := #[{ on := 37, ground := Ground.guard }], guard := some (37, true) }) (v := ?_) rfl (by kernel_rfl) (by kernel_rfl) (by kernel_rfl) (fun _ _ _ h => h) (Or.inl ⟨by rfl, ?_⟩) hHeld ?_
  rotate_left
  · (intro wq hSw; (try dsimp only at hSw); go_simp; try with_reducible rfl)
  try simp only [Act.put, List.setIfInBounds_toArray, List.set_cons_zero, List.set_cons_succ]
  refine wpAnyH_take (i := 39) (oi := { dst := some 72, op := Op.call { callee := Callee.builtin Builtin.len, args := #[Operand.tmp 71], argTypes := #[37] }, type := 3, pos := "law.go:17", after := #[{ on := 38, ground := Ground.data }, { on := 37, ground := Ground.guard }], guard := some (37, true) }) (v := ?_) rfl (by kernel_rfl) (by kernel_rfl) (by kernel_rfl) (fun _ _ _ h => h) (Or.inl ⟨by rfl, ?_⟩) hHeld ?_
  rotate_left
  · (intro wq hSw; (try dsimp only at hSw); go_simp; try with_reducible rfl)
  try simp only [Act.put, List.setIfInBounds_toArray, List.set_cons_zero, List.set_cons_succ]
  refine wpAnyH_take (i := 40) (oi := { dst := some 73, op := Op.binOp BinOp.eql 3 (Operand.tmp 72) (Operand.const (Value.int IntKind.i64 2)) 3, type := 4, pos := "law.go:17", after := #[{ on := 39, ground := Ground.data }, { on := 37, ground := Ground.guard }], guard := some (37, true) }) (v := ?_) rfl (by kernel_rfl) (by kernel_rfl) (by kernel_rfl) (fun _ _ _ h => h) (Or.inl ⟨by rfl, ?_⟩) hHeld ?_
  rotate_left
  · (intro wq hSw; (try dsimp only at hSw); go_simp; try with_reducible rfl)
  try simp only [Act.put, List.setIfInBounds_toArray, List.set_cons_zero, List.set_cons_succ]
  refine wpAnyH_take (i := 41) (oi := { dst := some 74, op := Op.pick (Operand.tmp 70) (Operand.tmp 73) (Operand.const (Value.bool false)), type := 4, pos := "law.go:17", after := #[{ on := 37, ground := Ground.data }, { on := 40, ground := Ground.data }], guard := none }) (v := ?_) rfl (by kernel_rfl) (by kernel_rfl) (by kernel_rfl) (fun _ _ _ h => h) (Or.inl ⟨by rfl, ?_⟩) hHeld ?_
  rotate_left
  · (intro wq hSw; (try dsimp only at hSw); go_simp; try with_reducible rfl)
  try simp only [Act.put, List.setIfInBounds_toArray, List.set_cons_zero, List.set_cons_succ]
  refine wpAnyH_take (i := 42) (oi := { dst := some 75, op := Op.move (Operand.tmp 74), type := 4, pos := "law.go:17", after := #[{ on := 41, ground := Ground.data }, { on := 37, ground := Ground.chain }], guard := none }) (v := ?_) rfl (by kernel_rfl) (by kernel_rfl) (by kernel_rfl) (fun _ _ _ h => h) (Or.inl ⟨by rfl, ?_⟩) hHeld ?_
  rotate_left
  · (intro wq hSw; (try dsimp only at hSw); go_simp; try with_reducible rfl)
  try simp only [Act.put, List.setIfInBounds_toArray, List.set_cons_zero, List.set_cons_succ]
  refine wpAnyH_take (i := 43) (oi := { dst := some 76, op := Op.move (Operand.tmp 7), type := 37, pos := "law.go:17", after := #[{ on := 42, ground := Ground.guard }], guard := some (42, true) }) (v := ?_) rfl (by kernel_rfl) (by kernel_rfl) (by kernel_rfl) (fun _ _ _ h => h) (Or.inl ⟨by rfl, ?_⟩) hHeld ?_
  rotate_left
  · (intro wq hSw; (try dsimp only at hSw); go_simp; try with_reducible rfl)
  try simp only [Act.put, List.setIfInBounds_toArray, List.set_cons_zero, List.set_cons_succ]
  refine wpAnyH_take (i := 44) (oi := { dst := some 77, op := Op.indexAddr 37 (Operand.tmp 76) (Operand.const (Value.int IntKind.i64 0)), type := 0, pos := "law.go:17", after := #[{ on := 43, ground := Ground.data }, { on := 42, ground := Ground.guard }], guard := some (42, true) }) (v := ?_) rfl (by kernel_rfl) (by kernel_rfl) (by kernel_rfl) (fun _ _ _ h => h) (Or.inl ⟨by rfl, ?_⟩) hHeld ?_
  rotate_left
  · (intro wq hSw; (try dsimp only at hSw); go_simp; try with_reducible rfl)
  try simp only [Act.put, List.setIfInBounds_toArray, List.set_cons_zero, List.set_cons_succ]
  refine wpAnyH_take (i := 45) (oi := { dst := some 78, op := Op.load 3 (Operand.tmp 77), type := 3, pos := "law.go:17", after := #[{ on := 44, ground := Ground.data }, { on := 42, ground := Ground.guard }], guard := some (42, true) }) (v := ?_) rfl (by kernel_rfl) (by kernel_rfl) (by kernel_rfl) (fun _ _ _ h => h) (Or.inl ⟨by rfl, ?_⟩) hHeld ?_
  rotate_left
  · (intro wq hSw; (try dsimp only at hSw); go_simp; try with_reducible rfl)
  try simp only [Act.put, List.setIfInBounds_toArray, List.set_cons_zero, List.set_cons_succ]
  refine wpAnyH_take (i := 46) (oi := { dst := some 79, op := Op.binOp BinOp.eql 3 (Operand.tmp 78) (Operand.const (Value.int IntKind.i64 7)) 3, type := 4, pos := "law.go:17", after := #[{ on := 45, ground := Ground.data }, { on := 42, ground := Ground.guard }], guard := some (42, true) }) (v := ?_) rfl (by kernel_rfl) (by kernel_rfl) (by kernel_rfl) (fun _ _ _ h => h) (Or.inl ⟨by rfl, ?_⟩) hHeld ?_
  rotate_left
  · (intro wq hSw; (try dsimp only at hSw); go_simp; try with_reducible rfl)
  try simp only [Act.put, List.setIfInBounds_toArray, List.set_cons_zero, List.set_cons_succ]
  refine wpAnyH_take (i := 47) (oi := { dst := some 80, op := Op.pick (Operand.tmp 75) (Operand.tmp 79) (Operand.const (Value.bool false)), type := 4, pos := "law.go:17", after := #[{ on := 42, ground := Ground.data }, { on := 46, ground := Ground.data }], guard := none }) (v := ?_) rfl (by kernel_rfl) (by kernel_rfl) (by kernel_rfl) (fun _ _ _ h => h) (Or.inl ⟨by rfl, ?_⟩) hHeld ?_
  rotate_left
  · (intro wq hSw; (try dsimp only at hSw); go_simp; try with_reducible rfl)
  try simp only [Act.put, List.setIfInBounds_toArray, List.set_cons_zero, List.set_cons_succ]
  refine wpAnyH_take (i := 48) (oi := { dst := some 81, op := Op.move (Operand.tmp 80), type := 4, pos := "law.go:17", after := #[{ on := 47, ground := Ground.data }, { on := 42, ground := Ground.chain }], guard := none }) (v := ?_) rfl (by kernel_rfl) (by kernel_rfl) (by kernel_rfl) (fun _ _ _ h => h) (Or.inl ⟨by rfl, ?_⟩) hHeld ?_
  rotate_left
  · (intro wq hSw; (try dsimp only at hSw); go_simp; try with_reducible rfl)
  try simp only [Act.put, List.setIfInBounds_toArray, List.set_cons_zero, List.set_cons_succ]
  refine wpAnyH_take (i := 49) (oi := { dst := some 82, op := Op.load 24 (Operand.tmp 1), type := 24, pos := "law.go:17", after := #[{ on := 48, ground := Ground.guard }], guard := some (48, true) }) (v := ?_) rfl (by kernel_rfl) (by kernel_rfl) (by kernel_rfl) (fun _ _ _ h => h) (Or.inl ⟨by rfl, ?_⟩) hHeld ?_
  rotate_left
  · (intro wq hSw; (try dsimp only at hSw); go_simp; try with_reducible rfl)
  try simp only [Act.put, List.setIfInBounds_toArray, List.set_cons_zero, List.set_cons_succ]
  refine wpAnyH_ready (rs := [50]) (by kernel_rfl) (by simp) ?_
  refine AllReadyH.cons (o := { dst := some 83, op := Op.call { callee := Callee.value (Operand.func 24), args := #[Operand.tmp 82], argTypes := #[24] }, type := 33, pos := "law.go:17", after := #[{ on := 49, ground := Ground.data }, { on := 48, ground := Ground.chain }, { on := 48, ground := Ground.guard }], guard := some (48, true) }) rfl (fun K hK => ?_) AllReadyH.nil
  have HKX := Lib.hid hK
  clear hK
  go_simp
  refine (c_check c0 HA.out.1.t.l).mono ?_
  rintro e wx ⟨rfl, ho⟩
  replace HA := Lib.hid (show LivS b1 b2 b5 b6 bl ol g a0 a1 a4 c0 c1 c4 wx ∧ Only (fun _ => False) w wx from ⟨HA.out.1.later ho, HA.out.2.same ho⟩)
  clear ho
  refine HKX.out _ _ HA.out.1.all (fun hHeld => ?_)
  clear HKX
  try simp only [Act.put, List.setIfInBounds_toArray, List.set_cons_zero, List.set_cons_succ]
  refine wpAnyH_take (i := 51) (oi := { dst := some 84, op := Op.binOp BinOp.eql 33 (Operand.tmp 83) (Operand.const (Value.int IntKind.i64 0)) 33, type := 4, pos := "law.go:17", after := #[{ on := 50, ground := Ground.data }, { on := 48, ground := Ground.guard }], guard := some (48, true) }) (v := ?_) rfl (by kernel_rfl) (by kernel_rfl) (by kernel_rfl) (fun _ _ _ h => h) (Or.inl ⟨by rfl, ?_⟩) hHeld ?_
  rotate_left
  · (intro wq hSw; (try dsimp only at hSw); go_simp; try with_reducible rfl)
  try simp only [Act.put, List.setIfInBounds_toArray, List.set_cons_zero, List.set_cons_succ]
  refine wpAnyH_take (i := 52) (oi := { dst := some 85, op := Op.pick (Operand.tmp 81) (Operand.tmp 84) (Operand.const (Value.bool false)), type := 4, pos := "law.go:17", after := #[{ on := 48, ground := Ground.data }, { on := 51, ground := Ground.data }], guard := none }) (v := ?_) rfl (by kernel_rfl) (by kernel_rfl) (by kernel_rfl) (fun _ _ _ h => h) (Or.inl ⟨by rfl, ?_⟩) hHeld ?_
  rotate_left
  · (intro wq hSw; (try dsimp only at hSw); go_simp; try with_reducible rfl)
  try simp only [Act.put, List.setIfInBounds_toArray, List.set_cons_zero, List.set_cons_succ]
  refine wpAnyH_take (i := 53) (oi := { dst := some 86, op := Op.move (Operand.tmp 85), type := 4, pos := "law.go:17", after := #[{ on := 52, ground := Ground.data }, { on := 50, ground := Ground.chain }], guard := none }) (v := ?_) rfl (by kernel_rfl) (by kernel_rfl) (by kernel_rfl) (fun _ _ _ h => h) (Or.inl ⟨by rfl, ?_⟩) hHeld ?_
  rotate_left
  · (intro wq hSw; (try dsimp only at hSw); go_simp; try with_reducible rfl)
  try simp only [Act.put, List.setIfInBounds_toArray, List.set_cons_zero, List.set_cons_succ]
  refine wpAnyH_take (i := 54) (oi := { dst := some 87, op := Op.build 24 #[], type := 24, pos := "law.go:17", after := #[{ on := 53, ground := Ground.guard }], guard := some (53, true) }) (v := ?_) rfl (by kernel_rfl) (by kernel_rfl) (by kernel_rfl) (fun _ _ _ h => h) (Or.inl ⟨by rfl, ?_⟩) hHeld ?_
  rotate_left
  · (intro wq hSw; (try dsimp only at hSw); go_simp; try with_reducible rfl)
  try simp only [Act.put, List.setIfInBounds_toArray, List.set_cons_zero, List.set_cons_succ]
  refine wpAnyH_ready (rs := [55]) (by kernel_rfl) (by simp) ?_
  refine AllReadyH.cons (o := { dst := some 88, op := Op.call { callee := Callee.value (Operand.func 24), args := #[Operand.tmp 87], argTypes := #[24] }, type := 33, pos := "law.go:17", after := #[{ on := 54, ground := Ground.data }, { on := 53, ground := Ground.chain }, { on := 53, ground := Ground.guard }], guard := some (53, true) }) rfl (fun K hK => ?_) AllReadyH.nil
  have HKX := Lib.hid hK
  clear hK
  go_simp
  refine (c_check0 _).mono ?_
  rintro e wx ⟨rfl, ho⟩
  replace HA := Lib.hid (show LivS b1 b2 b5 b6 bl ol g a0 a1 a4 c0 c1 c4 wx ∧ Only (fun _ => False) w wx from ⟨HA.out.1.later ho, HA.out.2.same ho⟩)
  clear ho
  refine HKX.out _ _ HA.out.1.all (fun hHeld => ?_)
  clear HKX
  try simp only [Act.put, List.setIfInBounds_toArray, List.set_cons_zero, List.set_cons_succ]
  refine wpAnyH_take (i := 56) (oi := { dst := some 89, op := Op.binOp BinOp.eql 33 (Operand.tmp 88) (Operand.const (Value.int IntKind.i64 60)) 33, type := 4, pos := "law.go:17", after := #[{ on := 55, ground := Ground.data }, { on := 53, ground := Ground.guard }], guard := some (53, true) }) (v := ?_) rfl (by kernel_rfl) (by kernel_rfl) (by kernel_rfl) (fun _ _ _ h => h) (Or.inl ⟨by rfl, ?_⟩) hHeld ?_
  rotate_left
  · (intro wq hSw; (try dsimp only at hSw); go_simp; try with_reducible rfl)
  try simp only [Act.put, List.setIfInBounds_toArray, List.set_cons_zero, List.set_cons_succ]
  refine wpAnyH_take (i := 57) (oi := { dst := some 90, op := Op.pick (Operand.tmp 86) (Operand.tmp 89) (Operand.const (Value.bool false)), type := 4, pos := "law.go:17", after := #[{ on := 53, ground := Ground.data }, { on := 56, ground := Ground.data }], guard := none }) (v := ?_) rfl (by kernel_rfl) (by kernel_rfl) (by kernel_rfl) (fun _ _ _ h => h) (Or.inl ⟨by rfl, ?_⟩) hHeld ?_
  rotate_left
  · (intro wq hSw; (try dsimp only at hSw); go_simp; try with_reducible rfl)
  try simp only [Act.put, List.setIfInBounds_toArray, List.set_cons_zero, List.set_cons_succ]
  refine wpAnyH_take (i := 58) (oi := { dst := some 91, op := Op.move (Operand.tmp 90), type := 4, pos := "law.go:17", after := #[{ on := 57, ground := Ground.data }, { on := 55, ground := Ground.chain }], guard := none }) (v := ?_) rfl (by kernel_rfl) (by kernel_rfl) (by kernel_rfl) (fun _ _ _ h => h) (Or.inl ⟨by rfl, ?_⟩) hHeld ?_
  rotate_left
  · (intro wq hSw; (try dsimp only at hSw); go_simp; try with_reducible rfl)
  try simp only [Act.put, List.setIfInBounds_toArray, List.set_cons_zero, List.set_cons_succ]
  refine wpAnyH_take (i := 59) (oi := { dst := some 92, op := Op.load 24 (Operand.tmp 1), type := 24, pos := "law.go:17", after := #[{ on := 58, ground := Ground.guard }], guard := some (58, true) }) (v := ?_) rfl (by kernel_rfl) (by kernel_rfl) (by kernel_rfl) (fun _ _ _ h => h) (Or.inl ⟨by rfl, ?_⟩) hHeld ?_
  rotate_left
  · (intro wq hSw; (try dsimp only at hSw); go_simp; try with_reducible rfl)
  try simp only [Act.put, List.setIfInBounds_toArray, List.set_cons_zero, List.set_cons_succ]
  refine wpAnyH_ready (rs := [60]) (by kernel_rfl) (by simp) ?_
  refine AllReadyH.cons (o := { dst := some 93, op := Op.call { callee := Callee.value (Operand.func 26), args := #[Operand.tmp 92], argTypes := #[24] }, type := 3, pos := "law.go:17", after := #[{ on := 59, ground := Ground.data }, { on := 58, ground := Ground.chain }, { on := 58, ground := Ground.guard }], guard := some (58, true) }) rfl (fun K hK => ?_) AllReadyH.nil
  have HKX := Lib.hid hK
  clear hK
  go_simp
  refine (c_size c0 HA.out.1.t.l).mono ?_
  rintro e wx ⟨rfl, ho⟩
  replace HA := Lib.hid (show LivS b1 b2 b5 b6 bl ol g a0 a1 a4 c0 c1 c4 wx ∧ Only (fun _ => False) w wx from ⟨HA.out.1.later ho, HA.out.2.same ho⟩)
  clear ho
  refine HKX.out _ _ HA.out.1.all (fun hHeld => ?_)
  clear HKX
  try simp only [Act.put, List.setIfInBounds_toArray, List.set_cons_zero, List.set_cons_succ]
  refine wpAnyH_take (i := 61) (oi := { dst := some 94, op := Op.binOp BinOp.eql 3 (Operand.tmp 93) (Operand.const (Value.int IntKind.i64 4)) 3, type := 4, pos := "law.go:17", after := #[{ on := 60, ground := Ground.data }, { on := 58, ground := Ground.guard }], guard := some (58, true) }) (v := ?_) rfl (by kernel_rfl) (by kernel_rfl) (by kernel_rfl) (fun _ _ _ h => h) (Or.inl ⟨by rfl, ?_⟩) hHeld ?_
  rotate_left
  · (intro wq hSw; (try dsimp only at hSw); go_simp; try with_reducible rfl)
  try simp only [Act.put, List.setIfInBounds_toArray, List.set_cons_zero, List.set_cons_succ]
  refine wpAnyH_take (i := 62) (oi := { dst := some 95, op := Op.pick (Operand.tmp 91) (Operand.tmp 94) (Operand.const (Value.bool false)), type := 4, pos := "law.go:17", after := #[{ on := 58, ground := Ground.data }, { on := 61, ground := Ground.data }], guard := none }) (v := ?_) rfl (by kernel_rfl) (by kernel_rfl) (by kernel_rfl) (fun _ _ _ h => h) (Or.inl ⟨by rfl, ?_⟩) hHeld ?_
  rotate_left
  · (intro wq hSw; (try dsimp only at hSw); go_simp; try with_reducible rfl)
  try simp only [Act.put, List.setIfInBounds_toArray, List.set_cons_zero, List.set_cons_succ]
  refine wpAnyH_take (i := 63) (oi := { dst := some 96, op := Op.move (Operand.tmp 95), type := 4, pos := "law.go:17", after := #[{ on := 62, ground := Ground.data }, { on := 60, ground := Ground.chain }], guard := none }) (v := ?_) rfl (by kernel_rfl) (by kernel_rfl) (by kernel_rfl) (fun _ _ _ h => h) (Or.inl ⟨by rfl, ?_⟩) hHeld ?_
  rotate_left
  · (intro wq hSw; (try dsimp only at hSw); go_simp; try with_reducible rfl)
  try simp only [Act.put, List.setIfInBounds_toArray, List.set_cons_zero, List.set_cons_succ]
  refine wpAnyH_take (i := 64) (oi := { dst := some 97, op := Op.load 24 (Operand.tmp 1), type := 24, pos := "law.go:17", after := #[{ on := 63, ground := Ground.guard }], guard := some (63, true) }) (v := ?_) rfl (by kernel_rfl) (by kernel_rfl) (by kernel_rfl) (fun _ _ _ h => h) (Or.inl ⟨by rfl, ?_⟩) hHeld ?_
  rotate_left
  · (intro wq hSw; (try dsimp only at hSw); go_simp; try with_reducible rfl)
  try simp only [Act.put, List.setIfInBounds_toArray, List.set_cons_zero, List.set_cons_succ]
  refine wpAnyH_ready (rs := [65]) (by kernel_rfl) (by simp) ?_
  refine AllReadyH.cons (o := { dst := some 98, op := Op.call { callee := Callee.value (Operand.func 27), args := #[Operand.tmp 97], argTypes := #[24] }, type := 3, pos := "law.go:17", after := #[{ on := 64, ground := Ground.data }, { on := 63, ground := Ground.chain }, { on := 63, ground := Ground.guard }], guard := some (63, true) }) rfl (fun K hK => ?_) AllReadyH.nil
  have HKX := Lib.hid hK
  clear hK
  go_simp
  refine (c_depth c0 HA.out.1.t.l).mono ?_
  rintro e wx ⟨rfl, ho⟩
  replace HA := Lib.hid (show LivS b1 b2 b5 b6 bl ol g a0 a1 a4 c0 c1 c4 wx ∧ Only (fun _ => False) w wx from ⟨HA.out.1.later ho, HA.out.2.same ho⟩)
  clear ho
  refine HKX.out _ _ HA.out.1.all (fun hHeld => ?_)
  clear HKX
  try simp only [Act.put, List.setIfInBounds_toArray, List.set_cons_zero, List.set_cons_succ]
  refine wpAnyH_take (i := 66) (oi := { dst := some 99, op := Op.binOp BinOp.eql 3 (Operand.tmp 98) (Operand.const (Value.int IntKind.i64 2)) 3, type := 4, pos := "law.go:17", after := #[{ on := 65, ground := Ground.data }, { on := 63, ground := Ground.guard }], guard := some (63, true) }) (v := ?_) rfl (by kernel_rfl) (by kernel_rfl) (by kernel_rfl) (fun _ _ _ h => h) (Or.inl ⟨by rfl, ?_⟩) hHeld ?_
  rotate_left
  · (intro wq hSw; (try dsimp only at hSw); go_simp; try with_reducible rfl)
  try simp only [Act.put, List.setIfInBounds_toArray, List.set_cons_zero, List.set_cons_succ]
  refine wpAnyH_take (i := 67) (oi := { dst := some 100, op := Op.pick (Operand.tmp 96) (Operand.tmp 99) (Operand.const (Value.bool false)), type := 4, pos := "law.go:17", after := #[{ on := 63, ground := Ground.data }, { on := 66, ground := Ground.data }], guard := none }) (v := ?_) rfl (by kernel_rfl) (by kernel_rfl) (by kernel_rfl) (fun _ _ _ h => h) (Or.inl ⟨by rfl, ?_⟩) hHeld ?_
  rotate_left
  · (intro wq hSw; (try dsimp only at hSw); go_simp; try with_reducible rfl)
  try simp only [Act.put, List.setIfInBounds_toArray, List.set_cons_zero, List.set_cons_succ]
  refine wpAnyH_take (i := 68) (oi := { dst := some 101, op := Op.move (Operand.tmp 100), type := 4, pos := "law.go:17", after := #[{ on := 67, ground := Ground.data }, { on := 65, ground := Ground.chain }], guard := none }) (v := ?_) rfl (by kernel_rfl) (by kernel_rfl) (by kernel_rfl) (fun _ _ _ h => h) (Or.inl ⟨by rfl, ?_⟩) hHeld ?_
  rotate_left
  · (intro wq hSw; (try dsimp only at hSw); go_simp; try with_reducible rfl)
  try simp only [Act.put, List.setIfInBounds_toArray, List.set_cons_zero, List.set_cons_succ]
  refine wpAnyH_take (i := 69) (oi := { dst := some 102, op := Op.load 24 (Operand.tmp 1), type := 24, pos := "law.go:17", after := #[{ on := 68, ground := Ground.guard }], guard := some (68, true) }) (v := ?_) rfl (by kernel_rfl) (by kernel_rfl) (by kernel_rfl) (fun _ _ _ h => h) (Or.inl ⟨by rfl, ?_⟩) hHeld ?_
  rotate_left
  · (intro wq hSw; (try dsimp only at hSw); go_simp; try with_reducible rfl)
  try simp only [Act.put, List.setIfInBounds_toArray, List.set_cons_zero, List.set_cons_succ]
  refine wpAnyH_ready (rs := [70]) (by kernel_rfl) (by simp) ?_
  refine AllReadyH.cons (o := { dst := some 103, op := Op.call { callee := Callee.value (Operand.func 29), args := #[Operand.tmp 102], argTypes := #[24] }, type := 4, pos := "law.go:17", after := #[{ on := 69, ground := Ground.data }, { on := 68, ground := Ground.chain }, { on := 68, ground := Ground.guard }], guard := some (68, true) }) rfl (fun K hK => ?_) AllReadyH.nil
  have HKX := Lib.hid hK
  clear hK
  go_simp
  refine (c_ground c0 HA.out.1.t.l).mono ?_
  rintro e wx ⟨rfl, ho⟩
  replace HA := Lib.hid (show LivS b1 b2 b5 b6 bl ol g a0 a1 a4 c0 c1 c4 wx ∧ Only (fun _ => False) w wx from ⟨HA.out.1.later ho, HA.out.2.same ho⟩)
  clear ho
  refine HKX.out _ _ HA.out.1.all (fun hHeld => ?_)
  clear HKX
  try simp only [Act.put, List.setIfInBounds_toArray, List.set_cons_zero, List.set_cons_succ]
  refine wpAnyH_take (i := 71) (oi := { dst := some 104, op := Op.unOp UnOp.not 4 (Operand.tmp 103), type := 4, pos := "law.go:17", after := #[{ on := 70, ground := Ground.data }, { on := 68, ground := Ground.guard }], guard := some (68, true) }) (v := ?_) rfl (by kernel_rfl) (by kernel_rfl) (by kernel_rfl) (fun _ _ _ h => h) (Or.inl ⟨by rfl, ?_⟩) hHeld ?_
  rotate_left
  · (intro wq hSw; (try dsimp only at hSw); go_simp; try with_reducible rfl)
  try simp only [Act.put, List.setIfInBounds_toArray, List.set_cons_zero, List.set_cons_succ]
  refine wpAnyH_take (i := 72) (oi := { dst := some 105, op := Op.pick (Operand.tmp 101) (Operand.tmp 104) (Operand.const (Value.bool false)), type := 4, pos := "law.go:17", after := #[{ on := 68, ground := Ground.data }, { on := 71, ground := Ground.data }], guard := none }) (v := ?_) rfl (by kernel_rfl) (by kernel_rfl) (by kernel_rfl) (fun _ _ _ h => h) (Or.inl ⟨by rfl, ?_⟩) hHeld ?_
  rotate_left
  · (intro wq hSw; (try dsimp only at hSw); go_simp; try with_reducible rfl)
  try simp only [Act.put, List.setIfInBounds_toArray, List.set_cons_zero, List.set_cons_succ]
  refine wpAnyH_take (i := 73) (oi := { dst := some 106, op := Op.move (Operand.tmp 105), type := 4, pos := "law.go:17", after := #[{ on := 72, ground := Ground.data }, { on := 70, ground := Ground.chain }], guard := none }) (v := ?_) rfl (by kernel_rfl) (by kernel_rfl) (by kernel_rfl) (fun _ _ _ h => h) (Or.inl ⟨by rfl, ?_⟩) hHeld ?_
  rotate_left
  · (intro wq hSw; (try dsimp only at hSw); go_simp; try with_reducible rfl)
  try simp only [Act.put, List.setIfInBounds_toArray, List.set_cons_zero, List.set_cons_succ]
  refine wpAnyH_take (i := 74) (oi := { dst := some 107, op := Op.load 24 (Operand.tmp 1), type := 24, pos := "law.go:17", after := #[{ on := 73, ground := Ground.guard }], guard := some (73, true) }) (v := ?_) rfl (by kernel_rfl) (by kernel_rfl) (by kernel_rfl) (fun _ _ _ h => h) (Or.inl ⟨by rfl, ?_⟩) hHeld ?_
  rotate_left
  · (intro wq hSw; (try dsimp only at hSw); go_simp; try with_reducible rfl)
  try simp only [Act.put, List.setIfInBounds_toArray, List.set_cons_zero, List.set_cons_succ]
  refine wpAnyH_take (i := 75) (oi := { dst := some 108, op := Op.load 24 (Operand.tmp 2), type := 24, pos := "law.go:17", after := #[{ on := 73, ground := Ground.guard }], guard := some (73, true) }) (v := ?_) rfl (by kernel_rfl) (by kernel_rfl) (by kernel_rfl) (fun _ _ _ h => h) (Or.inl ⟨by rfl, ?_⟩) hHeld ?_
  rotate_left
  · (intro wq hSw; (try dsimp only at hSw); go_simp; try with_reducible rfl)
  try simp only [Act.put, List.setIfInBounds_toArray, List.set_cons_zero, List.set_cons_succ]
  refine wpAnyH_ready (rs := [76]) (by kernel_rfl) (by simp) ?_
  refine AllReadyH.cons (o := { dst := some 109, op := Op.call { callee := Callee.value (Operand.func 36), args := #[Operand.tmp 107, Operand.tmp 108], argTypes := #[24, 24] }, type := 4, pos := "law.go:17", after := #[{ on := 74, ground := Ground.data }, { on := 75, ground := Ground.data }, { on := 73, ground := Ground.chain }, { on := 73, ground := Ground.guard }], guard := some (73, true) }) rfl (fun K hK => ?_) AllReadyH.nil
  have HKX := Lib.hid hK
  clear hK
  go_simp
  refine (c_variant c0 c1 HA.out.1.t.l HA.out.1.u.l).mono ?_
  rintro e wx ⟨rfl, ho⟩
  replace HA := Lib.hid (show LivS b1 b2 b5 b6 bl ol g a0 a1 a4 c0 c1 c4 wx ∧ Only (fun _ => False) w wx from ⟨HA.out.1.later ho, HA.out.2.same ho⟩)
  clear ho
  refine HKX.out _ _ HA.out.1.all (fun hHeld => ?_)
  clear HKX
  try simp only [Act.put, List.setIfInBounds_toArray, List.set_cons_zero, List.set_cons_succ]
  refine wpAnyH_take (i := 77) (oi := { dst := some 110, op := Op.pick (Operand.tmp 106) (Operand.tmp 109) (Operand.const (Value.bool false)), type := 4, pos := "law.go:17", after := #[{ on := 73, ground := Ground.data }, { on := 76, ground := Ground.data }], guard := none }) (v := ?_) rfl (by kernel_rfl) (by kernel_rfl) (by kernel_rfl) (fun _ _ _ h => h) (Or.inl ⟨by rfl, ?_⟩) hHeld ?_
  rotate_left
  · (intro wq hSw; (try dsimp only at hSw); go_simp; try with_reducible rfl)
  try simp only [Act.put, List.setIfInBounds_toArray, List.set_cons_zero, List.set_cons_succ]
  refine wpAnyH_take (i := 78) (oi := { dst := some 111, op := Op.move (Operand.tmp 110), type := 4, pos := "law.go:17", after := #[{ on := 77, ground := Ground.data }, { on := 76, ground := Ground.chain }], guard := none }) (v := ?_) rfl (by kernel_rfl) (by kernel_rfl) (by kernel_rfl) (fun _ _ _ h => h) (Or.inl ⟨by rfl, ?_⟩) hHeld ?_
  rotate_left
  · (intro wq hSw; (try dsimp only at hSw); go_simp; try with_reducible rfl)
  try simp only [Act.put, List.setIfInBounds_toArray, List.set_cons_zero, List.set_cons_succ]
  refine wpAnyH_take (i := 79) (oi := { dst := some 112, op := Op.load 24 (Operand.tmp 1), type := 24, pos := "law.go:17", after := #[{ on := 78, ground := Ground.guard }], guard := some (78, true) }) (v := ?_) rfl (by kernel_rfl) (by kernel_rfl) (by kernel_rfl) (fun _ _ _ h => h) (Or.inl ⟨by rfl, ?_⟩) hHeld ?_
  rotate_left
  · (intro wq hSw; (try dsimp only at hSw); go_simp; try with_reducible rfl)
  try simp only [Act.put, List.setIfInBounds_toArray, List.set_cons_zero, List.set_cons_succ]
  refine wpAnyH_take (i := 80) (oi := { dst := some 113, op := Op.load 24 (Operand.tmp 2), type := 24, pos := "law.go:17", after := #[{ on := 78, ground := Ground.guard }], guard := some (78, true) }) (v := ?_) rfl (by kernel_rfl) (by kernel_rfl) (by kernel_rfl) (fun _ _ _ h => h) (Or.inl ⟨by rfl, ?_⟩) hHeld ?_
  rotate_left
  · (intro wq hSw; (try dsimp only at hSw); go_simp; try with_reducible rfl)
  try simp only [Act.put, List.setIfInBounds_toArray, List.set_cons_zero, List.set_cons_succ]
  refine wpAnyH_ready (rs := [81]) (by kernel_rfl) (by simp) ?_
  refine AllReadyH.cons (o := { dst := some 114, op := Op.call { callee := Callee.value (Operand.func 30), args := #[Operand.tmp 112, Operand.tmp 113], argTypes := #[24, 24] }, type := 4, pos := "law.go:17", after := #[{ on := 79, ground := Ground.data }, { on := 80, ground := Ground.data }, { on := 78, ground := Ground.chain }, { on := 78, ground := Ground.guard }], guard := some (78, true) }) rfl (fun K hK => ?_) AllReadyH.nil
  have HKX := Lib.hid hK
  clear hK
  go_simp
  refine (c_same c0 c1 false eq_tu sane_t ok_t sane_u ok_u HA.out.1.t.l HA.out.1.u.l).mono ?_
  rintro e wx ⟨rfl, ho⟩
  replace HA := Lib.hid (show LivS b1 b2 b5 b6 bl ol g a0 a1 a4 c0 c1 c4 wx ∧ Only (fun _ => False) w wx from ⟨HA.out.1.later ho, HA.out.2.same ho⟩)
  clear ho
  refine HKX.out _ _ HA.out.1.all (fun hHeld => ?_)
  clear HKX
  try simp only [Act.put, List.setIfInBounds_toArray, List.set_cons_zero, List.set_cons_succ]
  refine wpAnyH_take (i := 82) (oi := { dst := some 115, op := Op.unOp UnOp.not 4 (Operand.tmp 114), type := 4, pos := "law.go:17", after := #[{ on := 81, ground := Ground.data }, { on := 78, ground := Ground.guard }], guard := some (78, true) }) (v := ?_) rfl (by kernel_rfl) (by kernel_rfl) (by kernel_rfl) (fun _ _ _ h => h) (Or.inl ⟨by rfl, ?_⟩) hHeld ?_
  rotate_left
  · (intro wq hSw; (try dsimp only at hSw); go_simp; try with_reducible rfl)
  try simp only [Act.put, List.setIfInBounds_toArray, List.set_cons_zero, List.set_cons_succ]
  refine wpAnyH_take (i := 83) (oi := { dst := some 116, op := Op.pick (Operand.tmp 111) (Operand.tmp 115) (Operand.const (Value.bool false)), type := 4, pos := "law.go:17", after := #[{ on := 78, ground := Ground.data }, { on := 82, ground := Ground.data }], guard := none }) (v := ?_) rfl (by kernel_rfl) (by kernel_rfl) (by kernel_rfl) (fun _ _ _ h => h) (Or.inl ⟨by rfl, ?_⟩) hHeld ?_
  rotate_left
  · (intro wq hSw; (try dsimp only at hSw); go_simp; try with_reducible rfl)
  try simp only [Act.put, List.setIfInBounds_toArray, List.set_cons_zero, List.set_cons_succ]
  refine wpAnyH_take (i := 84) (oi := { dst := some 117, op := Op.move (Operand.tmp 116), type := 4, pos := "law.go:17", after := #[{ on := 83, ground := Ground.data }, { on := 81, ground := Ground.chain }], guard := none }) (v := ?_) rfl (by kernel_rfl) (by kernel_rfl) (by kernel_rfl) (fun _ _ _ h => h) (Or.inl ⟨by rfl, ?_⟩) hHeld ?_
  rotate_left
  · (intro wq hSw; (try dsimp only at hSw); go_simp; try with_reducible rfl)
  try simp only [Act.put, List.setIfInBounds_toArray, List.set_cons_zero, List.set_cons_succ]
  refine wpAnyH_take (i := 85) (oi := { dst := some 118, op := Op.load 24 (Operand.tmp 1), type := 24, pos := "law.go:17", after := #[{ on := 84, ground := Ground.guard }], guard := some (84, true) }) (v := ?_) rfl (by kernel_rfl) (by kernel_rfl) (by kernel_rfl) (fun _ _ _ h => h) (Or.inl ⟨by rfl, ?_⟩) hHeld ?_
  rotate_left
  · (intro wq hSw; (try dsimp only at hSw); go_simp; try with_reducible rfl)
  try simp only [Act.put, List.setIfInBounds_toArray, List.set_cons_zero, List.set_cons_succ]
  refine wpAnyH_take (i := 87) (oi := { dst := some 120, op := Op.load 24 (Operand.tmp 1), type := 24, pos := "law.go:17", after := #[{ on := 84, ground := Ground.guard }], guard := some (84, true) }) (v := ?_) rfl (by kernel_rfl) (by kernel_rfl) (by kernel_rfl) (fun _ _ _ h => h) (Or.inl ⟨by rfl, ?_⟩) hHeld ?_
  rotate_left
  · (intro wq hSw; (try dsimp only at hSw); go_simp; try with_reducible rfl)
  try simp only [Act.put, List.setIfInBounds_toArray, List.set_cons_zero, List.set_cons_succ]
  refine wpAnyH_ready (rs := [86]) (by kernel_rfl) (by simp) ?_
  refine AllReadyH.cons (o := { dst := some 119, op := Op.call { callee := Callee.value (Operand.func 25), args := #[Operand.tmp 118], argTypes := #[24] }, type := 24, pos := "law.go:17", after := #[{ on := 85, ground := Ground.data }, { on := 84, ground := Ground.chain }, { on := 84, ground := Ground.guard }], guard := some (84, true) }) rfl (fun K hK => ?_) AllReadyH.nil
  have HKX := Lib.hid hK
  clear hK
  go_simp
  refine (c_clone c0 HA.out.1.t.l).mono ?_
  rintro e wx ⟨ct, cct, rfl, hlt, ho⟩
  have HLT := Lib.hid hlt; clear hlt
  replace HA := Lib.hid (show LivS b1 b2 b5 b6 bl ol g a0 a1 a4 c0 c1 c4 wx ∧ Only (fun _ => False) w wx from ⟨HA.out.1.later ho, HA.out.2.same ho⟩)
  clear ho
  refine HKX.out _ _ HA.out.1.all (fun hHeld => ?_)
  clear HKX
  try simp only [Act.put, List.setIfInBounds_toArray, List.set_cons_zero, List.set_cons_succ]
  refine wpAnyH_ready (rs := [88]) (by kernel_rfl) (by simp) ?_
  refine AllReadyH.cons (o := { dst := some 121, op := Op.call { callee := Callee.value (Operand.func 30), args := #[Operand.tmp 119, Operand.tmp 120], argTypes := #[24, 24] }, type := 4, pos := "law.go:17", after := #[{ on := 86, ground := Ground.data }, { on := 87, ground := Ground.data }, { on := 86, ground := Ground.chain }, { on := 84, ground := Ground.guard }], guard := some (84, true) }) rfl (fun K hK => ?_) AllReadyH.nil
  have HKX := Lib.hid hK
  clear hK
  go_simp
  refine (c_same cct c0 true eq_tt sane_t ok_t sane_t ok_t HLT.out HA.out.1.t.l).mono ?_
  rintro e wx ⟨rfl, ho⟩
  replace HA := Lib.hid (show LivS b1 b2 b5 b6 bl ol g a0 a1 a4 c0 c1 c4 wx ∧ Only (fun _ => False) w wx from ⟨HA.out.1.later ho, HA.out.2.same ho⟩)
  clear ho
  refine HKX.out _ _ HA.out.1.all (fun hHeld => ?_)
  clear HKX
  try simp only [Act.put, List.setIfInBounds_toArray, List.set_cons_zero, List.set_cons_succ]
  refine wpAnyH_take (i := 89) (oi := { dst := some 122, op := Op.pick (Operand.tmp 117) (Operand.tmp 121) (Operand.const (Value.bool false)), type := 4, pos := "law.go:17", after := #[{ on := 84, ground := Ground.data }, { on := 88, ground := Ground.data }], guard := none }) (v := ?_) rfl (by kernel_rfl) (by kernel_rfl) (by kernel_rfl) (fun _ _ _ h => h) (Or.inl ⟨by rfl, ?_⟩) hHeld ?_
  rotate_left
  · (intro wq hSw; (try dsimp only at hSw); go_simp; try with_reducible rfl)
  try simp only [Act.put, List.setIfInBounds_toArray, List.set_cons_zero, List.set_cons_succ]
  refine wpAnyH_take (i := 90) (oi := { dst := some 0, op := Op.assign (Operand.tmp 122), type := 4, pos := "law.go:17", after := #[{ on := 89, ground := Ground.data }, { on := 88, ground := Ground.chain }, { on := 0, ground := Ground.phase }, { on := 1, ground := Ground.phase }, { on := 2, ground := Ground.phase }, { on := 3, ground := Ground.phase }, { on := 4, ground := Ground.phase }, { on := 5, ground := Ground.phase }, { on := 6, ground := Ground.phase }, { on := 7, ground := Ground.phase }, { on := 8, ground := Ground.phase }, { on := 9, ground := Ground.phase }, { on := 10, ground := Ground.phase }, { on := 11, ground := Ground.phase }, { on := 12, ground := Ground.phase }, { on := 13, ground := Ground.phase }, { on := 14, ground := Ground.phase }, { on := 15, ground := Ground.phase }, { on := 16, ground := Ground.phase }, { on := 17, ground := Ground.phase }, { on := 18, ground := Ground.phase }, { on := 19, ground := Ground.phase }, { on := 20, ground := Ground.phase }, { on := 21, ground := Ground.phase }, { on := 22, ground := Ground.phase }, { on := 23, ground := Ground.phase }, { on := 24, ground := Ground.phase }, { on := 25, ground := Ground.phase }, { on := 26, ground := Ground.phase }, { on := 27, ground := Ground.phase }, { on := 28, ground := Ground.phase }, { on := 29, ground := Ground.phase }, { on := 30, ground := Ground.phase }, { on := 31, ground := Ground.phase }, { on := 32, ground := Ground.phase }, { on := 33, ground := Ground.phase }, { on := 34, ground := Ground.phase }, { on := 35, ground := Ground.phase }, { on := 36, ground := Ground.phase }, { on := 37, ground := Ground.phase }, { on := 38, ground := Ground.phase }, { on := 39, ground := Ground.phase }, { on := 40, ground := Ground.phase }, { on := 41, ground := Ground.phase }, { on := 42, ground := Ground.phase }, { on := 43, ground := Ground.phase }, { on := 44, ground := Ground.phase }, { on := 45, ground := Ground.phase }, { on := 46, ground := Ground.phase }, { on := 47, ground := Ground.phase }, { on := 48, ground := Ground.phase }, { on := 49, ground := Ground.phase }, { on := 50, ground := Ground.phase }, { on := 51, ground := Ground.phase }, { on := 52, ground := Ground.phase }, { on := 53, ground := Ground.phase }, { on := 54, ground := Ground.phase }, { on := 55, ground := Ground.phase }, { on := 56, ground := Ground.phase }, { on := 57, ground := Ground.phase }, { on := 58, ground := Ground.phase }, { on := 59, ground := Ground.phase }, { on := 60, ground := Ground.phase }, { on := 61, ground := Ground.phase }, { on := 62, ground := Ground.phase }, { on := 63, ground := Ground.phase }, { on := 64, ground := Ground.phase }, { on := 65, ground := Ground.phase }, { on := 66, ground := Ground.phase }, { on := 67, ground := Ground.phase }, { on := 68, ground := Ground.phase }, { on := 69, ground := Ground.phase }, { on := 70, ground := Ground.phase }, { on := 71, ground := Ground.phase }, { on := 72, ground := Ground.phase }, { on := 73, ground := Ground.phase }, { on := 74, ground := Ground.phase }, { on := 75, ground := Ground.phase }, { on := 76, ground := Ground.phase }, { on := 77, ground := Ground.phase }, { on := 78, ground := Ground.phase }, { on := 79, ground := Ground.phase }, { on := 80, ground := Ground.phase }, { on := 81, ground := Ground.phase }, { on := 82, ground := Ground.phase }, { on := 83, ground := Ground.phase }, { on := 84, ground := Ground.phase }, { on := 85, ground := Ground.phase }, { on := 86, ground := Ground.phase }, { on := 87, ground := Ground.phase }, { on := 88, ground := Ground.phase }, { on := 89, ground := Ground.phase }], guard := none }) (v := ?_) rfl (by kernel_rfl) (by kernel_rfl) (by kernel_rfl) (fun _ _ _ h => h) (Or.inl ⟨by rfl, ?_⟩) hHeld ?_
  rotate_left
  · (intro wq hSw; (try dsimp only at hSw); go_simp; try with_reducible rfl)
  try simp only [Act.put, List.setIfInBounds_toArray, List.set_cons_zero, List.set_cons_succ]
  refine wpAnyH_done (by kernel_rfl) ?_ _
  exact HQ.out _ _ rfl rfl HA.out.2
set_option maxRecDepth 1000000 in
set_option maxHeartbeats 16000000 in
theorem lives_last {w wd0 : World} {b1 b2 b5 b6 bl ol g lc oc : Nat} {a0 a1 a4 : Option Addr} {c0 c1 c4 : Nat} {Q : Exit → Act → World → Prop} (u0 u8 u9 u10 u11 u12 u13 u14 u15 u16 u17 u18 u19 u20 u21 u22 u23 u24 u25 u26 u27 u28 u29 u30 u31 u32 u33 u34 u35 u36 u37 u38 u39 u40 u41 u42 u43 u44 u45 u46 u47 u48 u49 u50 u51 u52 u53 u54 u55 u56 u57 u58 u59 u60 u61 u62 u63 u64 u65 u66 u67 u68 u69 u70 u71 u72 u73 u74 u75 u76 u77 u78 u79 u80 u81 u82 u83 u84 u85 u86 u87 u88 u89 u90 u91 u92 u93 u94 u95 u96 u97 u98 u99 u100 u101 u102 u103 u104 u105 u106 u107 u108 u109 u110 u111 u112 u113 u114 u115 u116 u117 u118 u119 u120 u121 u122 : Value) (hA : LivS b1 b2 b5 b6 bl ol g a0 a1 a4 c0 c1 c4 wd0) (ho : Only (fun _ => False) w wd0) (hQ : ∀ a' W', a'.tmps.getD 0 undef = .bool true → a'.defers = [] → Only (fun _ => False) w W' → Q .normal a' W') : Code.wp Try.prog livesLast Q { tmps := #[u0, .pointer (some ⟨b1, 0, none⟩), .pointer (some ⟨b2, 0, none⟩), .int .i64 2, .slice (some ⟨bl, ol, none⟩) 2 lc, .pointer (some ⟨b5, 0, none⟩), .pointer (some ⟨b6, 0, none⟩), .slice (some ⟨g, 0, none⟩) 2 oc, u8, u9, u10, u11, u12, u13, u14, u15, u16, u17, u18, u19, u20, u21, u22, u23, u24, u25, u26, u27, u28, u29, u30, u31, u32, u33, u34, u35, u36, u37, u38, u39, u40, u41, u42, u43, u44, u45, u46, u47, u48, u49, u50, u51, u52, u53, u54, u55, u56, u57, u58, u59, u60, u61, u62, u63, u64, u65, u66, u67, u68, u69, u70, u71, u72, u73, u74, u75, u76, u77, u78, u79, u80, u81, u82, u83, u84, u85, u86, u87, u88, u89, u90, u91, u92, u93, u94, u95, u96, u97, u98, u99, u100, u101, u102, u103, u104, u105, u106, u107, u108, u109, u110, u111, u112, u113, u114, u115, u116, u117, u118, u119, u120, u121, u122], defers := [] } wd0 := by
  have HA := Lib.hid (show LivS b1 b2 b5 b6 bl ol g a0 a1 a4 c0 c1 c4 wd0 ∧ Only (fun _ => False) w wd0 from ⟨hA, ho⟩)
  have HQ := Lib.hid hQ
  clear hA ho hQ
  have hk0 : (0 : Int) < ((2 : Nat) : Int) := by omega
  have hk1 : (1 : Int) < ((2 : Nat) : Int) := by omega
  replace HA := Lib.hid (show LivS b1 b2 b5 b6 bl ol g a0 a1 a4 c0 c1 c4 wd0.drew ∧ Only (fun _ => False) w wd0.drew from ⟨HA.out.1.later (Only.drew _ _), HA.out.2.same (Only.drew _ _)⟩)
  conv => arg 2; whnf
  simp only [List.append]
  refine wp_region_noPanic ?_
  refine wp_region_held_drew (S := (fun w' : World => w'.cell? ⟨b1, 0, none⟩ = some (.int .i64 tC.k) ∧ w'.cell? ⟨b1, 1, none⟩ = some (.int .i64 tC.n) ∧ w'.cell? ⟨b1, 2, none⟩ = some (.string tC.s) ∧ w'.cell? ⟨b1, 3, none⟩ = some (.slice a0 tC.l.length c0) ∧   w'.cell? ⟨b2, 0, none⟩ = some (.int .i64 uC.k) ∧ w'.cell? ⟨b2, 1, none⟩ = some (.int .i64 uC.n) ∧ w'.cell? ⟨b2, 2, none⟩ = some (.string uC.s) ∧ w'.cell? ⟨b2, 3, none⟩ = some (.slice a1 uC.l.length c1) ∧   w'.cell? ⟨b6, 0, none⟩ = some (.int .i64 vC.k) ∧ w'.cell? ⟨b6, 1, none⟩ = some (.int .i64 vC.n) ∧ w'.cell? ⟨b6, 2, none⟩ = some (.string vC.s) ∧ w'.cell? ⟨b6, 3, none⟩ = some (.slice a4 vC.l.length c4) ∧   w'.cell? ⟨b5, 2, none⟩ = some (.string ⟨#[91, 93]⟩) ∧ w'.cell? ⟨bl, ol + 1, none⟩ = some (.int .i64 1) ∧ w'.cell? ⟨g, 0, none⟩ = some (.int .i64 7) ∧ w'.cell? ⟨g, 1, none⟩ = some (.int .i64 3))) (by kernel_rfl) HA.out.1.all (fun hHeld => ?_)
  change wpAnyH _ _ _ _ _ _ _ _ _
  refine wpAnyH_take (i := 0) (oi := { dst := some 33, op := Op.move (Operand.tmp 3), type := 3, pos := "law.go:17", after := #[], guard := none }) (v := ?_) rfl (by kernel_rfl) (by kernel_rfl) (by kernel_rfl) (fun _ _ _ h => h) (Or.inl ⟨by rfl, ?_⟩) hHeld ?_
  rotate_left
  · (intro wq hSw; (try dsimp only at hSw); go_simp; try with_reducible rfl)
  try simp only [Act.put, List.setIfInBounds_toArray, List.set_cons_zero, List.set_cons_succ]
  refine wpAnyH_take (i := 1) (oi := { dst := some 34, op := Op.binOp BinOp.eql 3 (Operand.tmp 33) (Operand.const (Value.int IntKind.i64 2)) 3, type := 4, pos := "law.go:17", after := #[{ on := 0, ground := Ground.data }], guard := none }) (v := ?_) rfl (by kernel_rfl) (by kernel_rfl) (by kernel_rfl) (fun _ _ _ h => h) (Or.inl ⟨by rfl, ?_⟩) hHeld ?_
  rotate_left
  · (intro wq hSw; (try dsimp only at hSw); go_simp; try with_reducible rfl)
  try simp only [Act.put, List.setIfInBounds_toArray, List.set_cons_zero, List.set_cons_succ]
  refine wpAnyH_take (i := 2) (oi := { dst := some 35, op := Op.move (Operand.tmp 34), type := 4, pos := "law.go:17", after := #[{ on := 1, ground := Ground.data }], guard := none }) (v := ?_) rfl (by kernel_rfl) (by kernel_rfl) (by kernel_rfl) (fun _ _ _ h => h) (Or.inl ⟨by rfl, ?_⟩) hHeld ?_
  rotate_left
  · (intro wq hSw; (try dsimp only at hSw); go_simp; try with_reducible rfl)
  try simp only [Act.put, List.setIfInBounds_toArray, List.set_cons_zero, List.set_cons_succ]
  refine wpAnyH_take (i := 3) (oi := { dst := some 36, op := Op.load 24 (Operand.tmp 2), type := 24, pos := "law.go:17", after := #[{ on := 2, ground := Ground.guard }], guard := some (2, true) }) (v := ?_) rfl (by kernel_rfl) (by kernel_rfl) (by kernel_rfl) (fun _ _ _ h => h) (Or.inl ⟨by rfl, ?_⟩) hHeld ?_
  rotate_left
  · (intro wq hSw; (try dsimp only at hSw); go_simp; try with_reducible rfl)
  try simp only [Act.put, List.setIfInBounds_toArray, List.set_cons_zero, List.set_cons_succ]
  refine wpAnyH_ready (rs := [4]) (by kernel_rfl) (by simp) ?_
  refine AllReadyH.cons (o := { dst := some 37, op := Op.call { callee := Callee.value (Operand.func 14), args := #[Operand.const (Value.int IntKind.i64 0)], argTypes := #[3] }, type := 24, pos := "law.go:17", after := #[{ on := 2, ground := Ground.chain }, { on := 2, ground := Ground.guard }], guard := some (2, true) }) rfl (fun K hK => ?_) AllReadyH.nil
  have HKX := Lib.hid hK
  clear hK
  go_simp
  refine (rvar_plain _ _).mono ?_
  rintro e wx ⟨rfl, ho⟩
  replace HA := Lib.hid (show LivS b1 b2 b5 b6 bl ol g a0 a1 a4 c0 c1 c4 wx ∧ Only (fun _ => False) w wx from ⟨HA.out.1.later ho, HA.out.2.same ho⟩)
  clear ho
  refine HKX.out _ _ HA.out.1.all (fun hHeld => ?_)
  clear HKX
  try simp only [Act.put, List.setIfInBounds_toArray, List.set_cons_zero, List.set_cons_succ]
  refine wpAnyH_ready (rs := [5]) (by kernel_rfl) (by simp) ?_
  refine AllReadyH.cons (o := { dst := some 38, op := Op.call { callee := Callee.value (Operand.func 14), args := #[Operand.const (Value.int IntKind.i64 1)], argTypes := #[3] }, type := 24, pos := "law.go:17", after := #[{ on := 4, ground := Ground.chain }, { on := 2, ground := Ground.guard }], guard := some (2, true) }) rfl (fun K hK => ?_) AllReadyH.nil
  have HKX := Lib.hid hK
  clear hK
  go_simp
  refine (rvar_plain _ _).mono ?_
  rintro e wx ⟨rfl, ho⟩
  replace HA := Lib.hid (show LivS b1 b2 b5 b6 bl ol g a0 a1 a4 c0 c1 c4 wx ∧ Only (fun _ => False) w wx from ⟨HA.out.1.later ho, HA.out.2.same ho⟩)
  clear ho
  refine HKX.out _ _ HA.out.1.all (fun hHeld => ?_)
  clear HKX
  try simp only [Act.put, List.setIfInBounds_toArray, List.set_cons_zero, List.set_cons_succ]
  refine wpAnyH_ready (rs := [6]) (by kernel_rfl) (by simp) ?_
  refine AllReadyH.cons (o := { dst := some 39, op := Op.call { callee := Callee.value (Operand.func 14), args := #[Operand.const (Value.int IntKind.i64 0)], argTypes := #[3] }, type := 24, pos := "law.go:17", after := #[{ on := 5, ground := Ground.chain }, { on := 2, ground := Ground.guard }], guard := some (2, true) }) rfl (fun K hK => ?_) AllReadyH.nil
  have HKX := Lib.hid hK
  clear hK
  go_simp
  refine (rvar_plain _ _).mono ?_
  rintro e wx ⟨rfl, ho⟩
  replace HA := Lib.hid (show LivS b1 b2 b5 b6 bl ol g a0 a1 a4 c0 c1 c4 wx ∧ Only (fun _ => False) w wx from ⟨HA.out.1.later ho, HA.out.2.same ho⟩)
  clear ho
  refine HKX.out _ _ HA.out.1.all (fun hHeld => ?_)
  clear HKX
  try simp only [Act.put, List.setIfInBounds_toArray, List.set_cons_zero, List.set_cons_succ]
  refine wpAnyH_ready (rs := [7]) (by kernel_rfl) (by simp) ?_
  refine AllReadyH.cons (o := { dst := some 40, op := Op.buildSlice 22 3 #[(0, Operand.tmp 37), (1, Operand.tmp 38), (2, Operand.tmp 39)], type := 22, pos := "law.go:17", after := #[{ on := 4, ground := Ground.data }, { on := 5, ground := Ground.data }, { on := 6, ground := Ground.data }, { on := 2, ground := Ground.guard }], guard := some (2, true) }) rfl (fun K hK => ?_) AllReadyH.nil
  have HKX := Lib.hid hK
  clear hK
  go_simp
  refine HKX.out _ _ (HA.out.1.later (Only.alloc _ _ _)).all (fun hHeld => ?_)
  clear HKX
  try simp only [Act.put, List.setIfInBounds_toArray, List.set_cons_zero, List.set_cons_succ]
  have HB := Lib.hid (heap_alloc_new wx (.cells #[.int .i64 1, .int .i64 0, .string ⟨#[]⟩, .slice none 0 0, .int .i64 1, .int .i64 1, .string ⟨#[]⟩, .slice none 0 0, .int .i64 1, .int .i64 0, .string ⟨#[]⟩, .slice none 0 0] 24))
  replace HA := Lib.hid (show LivS b1 b2 b5 b6 bl ol g a0 a1 a4 c0 c1 c4 (World.alloc wx (.cells #[.int .i64 1, .int .i64 0, .string ⟨#[]⟩, .slice none 0 0, .int .i64 1, .int .i64 1, .string ⟨#[]⟩, .slice none 0 0, .int .i64 1, .int .i64 0, .string ⟨#[]⟩, .slice none 0 0] 24)) ∧ Only (fun _ => False) w (World.alloc wx (.cells #[.int .i64 1, .int .i64 0, .string ⟨#[]⟩, .slice none 0 0, .int .i64 1, .int .i64 1, .string ⟨#[]⟩, .slice none 0 0, .int .i64 1, .int .i64 0, .string ⟨#[]⟩, .slice none 0 0] 24)) from ⟨HA.out.1.later (Only.alloc _ wx _), HA.out.2.same (Only.alloc _ wx _)⟩)
  refine wpAnyH_ready (rs := [8]) (by kernel_rfl) (by simp) ?_
  refine AllReadyH.cons (o := { dst := some 41, op := Op.call { callee := Callee.value (Operand.func 20), args := #[Operand.const (Value.string { data := #[102] }), Operand.tmp 40], argTypes := #[9, 22] }, type := 24, pos := "law.go:17", after := #[{ on := 7, ground := Ground.data }, { on := 6, ground := Ground.chain }, { on := 2, ground := Ground.guard }], guard := some (2, true) }) rfl (fun K hK => ?_) AllReadyH.nil
  have HKX := Lib.hid hK
  clear hK
  go_simp
  refine (c_rcomp sF uC comp_u (by decide +kernel) (by decide) HB.out rfl leaves_u).mono ?_
  rintro e wx ⟨cu, cc, rfl, hlu, ho⟩
  have HLU := Lib.hid hlu; clear hlu
  replace HA := Lib.hid (show LivS b1 b2 b5 b6 bl ol g a0 a1 a4 c0 c1 c4 wx ∧ Only (fun _ => False) w wx from ⟨HA.out.1.later ho, HA.out.2.same ho⟩)
  clear ho
  refine HKX.out _ _ HA.out.1.all (fun hHeld => ?_)
  clear HKX
  try simp only [Act.put, List.setIfInBounds_toArray, List.set_cons_zero, List.set_cons_succ]
  refine wpAnyH_ready (rs := [9]) (by kernel_rfl) (by simp) ?_
  refine AllReadyH.cons (o := { dst := some 42, op := Op.call { callee := Callee.value (Operand.func 12), args := #[Operand.tmp 36, Operand.tmp 41], argTypes := #[24, 24] }, type := 4, pos := "law.go:17", after := #[{ on := 3, ground := Ground.data }, { on := 8, ground := Ground.data }, { on := 8, ground := Ground.chain }, { on := 2, ground := Ground.guard }], guard := some (2, true) }) rfl (fun K hK => ?_) AllReadyH.nil
  have HKX := Lib.hid hK
  clear hK
  go_simp
  refine (c_exact c1 cc true eq_uu sane_u sane_u HA.out.1.u.l HLU.out).mono ?_
  rintro e wx ⟨rfl, ho⟩
  replace HA := Lib.hid (show LivS b1 b2 b5 b6 bl ol g a0 a1 a4 c0 c1 c4 wx ∧ Only (fun _ => False) w wx from ⟨HA.out.1.later ho, HA.out.2.same ho⟩)
  clear ho
  refine HKX.out _ _ HA.out.1.all (fun hHeld => ?_)
  clear HKX
  try simp only [Act.put, List.setIfInBounds_toArray, List.set_cons_zero, List.set_cons_succ]
  refine wpAnyH_take (i := 10) (oi := { dst := some 43, op := Op.pick (Operand.tmp 35) (Operand.tmp 42) (Operand.const (Value.bool false)), type := 4, pos := "law.go:17", after := #[{ on := 2, ground := Ground.data }, { on := 9, ground := Ground.data }], guard := none }) (v := ?_) rfl (by kernel_rfl) (by kernel_rfl) (by kernel_rfl) (fun _ _ _ h => h) (Or.inl ⟨by rfl, ?_⟩) hHeld ?_
  rotate_left
  · (intro wq hSw; (try dsimp only at hSw); go_simp; try with_reducible rfl)
  try simp only [Act.put, List.setIfInBounds_toArray, List.set_cons_zero, List.set_cons_succ]
  refine wpAnyH_take (i := 11) (oi := { dst := some 44, op := Op.move (Operand.tmp 43), type := 4, pos := "law.go:17", after := #[{ on := 10, ground := Ground.data }, { on := 9, ground := Ground.chain }], guard := none }) (v := ?_) rfl (by kernel_rfl) (by kernel_rfl) (by kernel_rfl) (fun _ _ _ h => h) (Or.inl ⟨by rfl, ?_⟩) hHeld ?_
  rotate_left
  · (intro wq hSw; (try dsimp only at hSw); go_simp; try with_reducible rfl)
  try simp only [Act.put, List.setIfInBounds_toArray, List.set_cons_zero, List.set_cons_succ]
  refine wpAnyH_take (i := 12) (oi := { dst := some 45, op := Op.move (Operand.tmp 4), type := 22, pos := "law.go:17", after := #[{ on := 11, ground := Ground.guard }], guard := some (11, true) }) (v := ?_) rfl (by kernel_rfl) (by kernel_rfl) (by kernel_rfl) (fun _ _ _ h => h) (Or.inl ⟨by rfl, ?_⟩) hHeld ?_
  rotate_left
  · (intro wq hSw; (try dsimp only at hSw); go_simp; try with_reducible rfl)
  try simp only [Act.put, List.setIfInBounds_toArray, List.set_cons_zero, List.set_cons_succ]
  refine wpAnyH_take (i := 13) (oi := { dst := some 46, op := Op.call { callee := Callee.builtin Builtin.len, args := #[Operand.tmp 45], argTypes := #[22] }, type := 3, pos := "law.go:17", after := #[{ on := 12, ground := Ground.data }, { on := 11, ground := Ground.guard }], guard := some (11, true) }) (v := ?_) rfl (by kernel_rfl) (by kernel_rfl) (by kernel_rfl) (fun _ _ _ h => h) (Or.inl ⟨by rfl, ?_⟩) hHeld ?_
  rotate_left
  · (intro wq hSw; (try dsimp only at hSw); go_simp; try with_reducible rfl)
  try simp only [Act.put, List.setIfInBounds_toArray, List.set_cons_zero, List.set_cons_succ]
  refine wpAnyH_take (i := 14) (oi := { dst := some 47, op := Op.binOp BinOp.eql 3 (Operand.tmp 46) (Operand.const (Value.int IntKind.i64 2)) 3, type := 4, pos := "law.go:17", after := #[{ on := 13, ground := Ground.data }, { on := 11, ground := Ground.guard }], guard := some (11, true) }) (v := ?_) rfl (by kernel_rfl) (by kernel_rfl) (by kernel_rfl) (fun _ _ _ h => h) (Or.inl ⟨by rfl, ?_⟩) hHeld ?_
  rotate_left
  · (intro wq hSw; (try dsimp only at hSw); go_simp; try with_reducible rfl)
  try simp only [Act.put, List.setIfInBounds_toArray, List.set_cons_zero, List.set_cons_succ]
  refine wpAnyH_take (i := 15) (oi := { dst := some 48, op := Op.pick (Operand.tmp 44) (Operand.tmp 47) (Operand.const (Value.bool false)), type := 4, pos := "law.go:17", after := #[{ on := 11, ground := Ground.data }, { on := 14, ground := Ground.data }], guard := none }) (v := ?_) rfl (by kernel_rfl) (by kernel_rfl) (by kernel_rfl) (fun _ _ _ h => h) (Or.inl ⟨by rfl, ?_⟩) hHeld ?_
  rotate_left
  · (intro wq hSw; (try dsimp only at hSw); go_simp; try with_reducible rfl)
  try simp only [Act.put, List.setIfInBounds_toArray, List.set_cons_zero, List.set_cons_succ]
  refine wpAnyH_take (i := 16) (oi := { dst := some 49, op := Op.move (Operand.tmp 48), type := 4, pos := "law.go:17", after := #[{ on := 15, ground := Ground.data }, { on := 11, ground := Ground.chain }], guard := none }) (v := ?_) rfl (by kernel_rfl) (by kernel_rfl) (by kernel_rfl) (fun _ _ _ h => h) (Or.inl ⟨by rfl, ?_⟩) hHeld ?_
  rotate_left
  · (intro wq hSw; (try dsimp only at hSw); go_simp; try with_reducible rfl)
  try simp only [Act.put, List.setIfInBounds_toArray, List.set_cons_zero, List.set_cons_succ]
  refine wpAnyH_take (i := 17) (oi := { dst := some 50, op := Op.move (Operand.tmp 4), type := 22, pos := "law.go:17", after := #[{ on := 16, ground := Ground.guard }], guard := some (16, true) }) (v := ?_) rfl (by kernel_rfl) (by kernel_rfl) (by kernel_rfl) (fun _ _ _ h => h) (Or.inl ⟨by rfl, ?_⟩) hHeld ?_
  rotate_left
  · (intro wq hSw; (try dsimp only at hSw); go_simp; try with_reducible rfl)
  try simp only [Act.put, List.setIfInBounds_toArray, List.set_cons_zero, List.set_cons_succ]
  refine wpAnyH_take (i := 18) (oi := { dst := some 51, op := Op.indexAddr 22 (Operand.tmp 50) (Operand.const (Value.int IntKind.i64 0)), type := 0, pos := "law.go:17", after := #[{ on := 17, ground := Ground.data }, { on := 16, ground := Ground.guard }], guard := some (16, true) }) (v := ?_) rfl (by kernel_rfl) (by kernel_rfl) (by kernel_rfl) (fun _ _ _ h => h) (Or.inl ⟨by rfl, ?_⟩) hHeld ?_
  rotate_left
  · (intro wq hSw; (try dsimp only at hSw); go_simp; try with_reducible rfl)
  try simp only [Act.put, List.setIfInBounds_toArray, List.set_cons_zero, List.set_cons_succ]
  refine wpAnyH_take (i := 19) (oi := { dst := some 52, op := Op.fieldAddr 24 (Operand.tmp 51) 1, type := 0, pos := "law.go:17", after := #[{ on := 18, ground := Ground.data }, { on := 16, ground := Ground.guard }], guard := some (16, true) }) (v := ?_) rfl (by kernel_rfl) (by kernel_rfl) (by kernel_rfl) (fun _ _ _ h => h) (Or.inl ⟨by rfl, ?_⟩) hHeld ?_
  rotate_left
  · (intro wq hSw; (try dsimp only at hSw); go_simp; try with_reducible rfl)
  try simp only [Act.put, List.setIfInBounds_toArray, List.set_cons_zero, List.set_cons_succ]
  refine wpAnyH_take (i := 20) (oi := { dst := some 53, op := Op.load 3 (Operand.tmp 52), type := 3, pos := "law.go:17", after := #[{ on := 19, ground := Ground.data }, { on := 16, ground := Ground.guard }], guard := some (16, true) }) (v := ?_) rfl (by kernel_rfl) (by kernel_rfl) (by kernel_rfl) (fun _ _ _ h => h) (Or.inl ⟨by rfl, ?_⟩) hHeld ?_
  rotate_left
  · (intro wq hSw; (try dsimp only at hSw); go_simp; try with_reducible rfl)
  try simp only [Act.put, List.setIfInBounds_toArray, List.set_cons_zero, List.set_cons_succ]
  refine wpAnyH_take (i := 21) (oi := { dst := some 54, op := Op.binOp BinOp.eql 3 (Operand.tmp 53) (Operand.const (Value.int IntKind.i64 1)) 3, type := 4, pos := "law.go:17", after := #[{ on := 20, ground := Ground.data }, { on := 16, ground := Ground.guard }], guard := some (16, true) }) (v := ?_) rfl (by kernel_rfl) (by kernel_rfl) (by kernel_rfl) (fun _ _ _ h => h) (Or.inl ⟨by rfl, ?_⟩) hHeld ?_
  rotate_left
  · (intro wq hSw; (try dsimp only at hSw); go_simp; try with_reducible rfl)
  try simp only [Act.put, List.setIfInBounds_toArray, List.set_cons_zero, List.set_cons_succ]
  refine wpAnyH_take (i := 22) (oi := { dst := some 55, op := Op.pick (Operand.tmp 49) (Operand.tmp 54) (Operand.const (Value.bool false)), type := 4, pos := "law.go:17", after := #[{ on := 16, ground := Ground.data }, { on := 21, ground := Ground.data }], guard := none }) (v := ?_) rfl (by kernel_rfl) (by kernel_rfl) (by kernel_rfl) (fun _ _ _ h => h) (Or.inl ⟨by rfl, ?_⟩) hHeld ?_
  rotate_left
  · (intro wq hSw; (try dsimp only at hSw); go_simp; try with_reducible rfl)
  try simp only [Act.put, List.setIfInBounds_toArray, List.set_cons_zero, List.set_cons_succ]
  refine wpAnyH_take (i := 23) (oi := { dst := some 56, op := Op.move (Operand.tmp 55), type := 4, pos := "law.go:17", after := #[{ on := 22, ground := Ground.data }, { on := 16, ground := Ground.chain }], guard := none }) (v := ?_) rfl (by kernel_rfl) (by kernel_rfl) (by kernel_rfl) (fun _ _ _ h => h) (Or.inl ⟨by rfl, ?_⟩) hHeld ?_
  rotate_left
  · (intro wq hSw; (try dsimp only at hSw); go_simp; try with_reducible rfl)
  try simp only [Act.put, List.setIfInBounds_toArray, List.set_cons_zero, List.set_cons_succ]
  refine wpAnyH_take (i := 24) (oi := { dst := some 57, op := Op.fieldAddr 24 (Operand.tmp 5) 2, type := 0, pos := "law.go:17", after := #[{ on := 23, ground := Ground.guard }], guard := some (23, true) }) (v := ?_) rfl (by kernel_rfl) (by kernel_rfl) (by kernel_rfl) (fun _ _ _ h => h) (Or.inl ⟨by rfl, ?_⟩) hHeld ?_
  rotate_left
  · (intro wq hSw; (try dsimp only at hSw); go_simp; try with_reducible rfl)
  try simp only [Act.put, List.setIfInBounds_toArray, List.set_cons_zero, List.set_cons_succ]
  refine wpAnyH_take (i := 25) (oi := { dst := some 58, op := Op.load 9 (Operand.tmp 57), type := 9, pos := "law.go:17", after := #[{ on := 24, ground := Ground.data }, { on := 23, ground := Ground.guard }], guard := some (23, true) }) (v := ?_) rfl (by kernel_rfl) (by kernel_rfl) (by kernel_rfl) (fun _ _ _ h => h) (Or.inl ⟨by rfl, ?_⟩) hHeld ?_
  rotate_left
  · (intro wq hSw; (try dsimp only at hSw); go_simp; try with_reducible rfl)
  try simp only [Act.put, List.setIfInBounds_toArray, List.set_cons_zero, List.set_cons_succ]
  refine wpAnyH_take (i := 26) (oi := { dst := some 59, op := Op.binOp BinOp.eql 9 (Operand.tmp 58) (Operand.const (Value.string { data := #[91, 93] })) 9, type := 4, pos := "law.go:17", after := #[{ on := 25, ground := Ground.data }, { on := 23, ground := Ground.guard }], guard := some (23, true) }) (v := ?_) rfl (by kernel_rfl) (by kernel_rfl) (by kernel_rfl) (fun _ _ _ h => h) (Or.inl ⟨by rfl, ?_⟩) hHeld ?_
  rotate_left
  · (intro wq hSw; (try dsimp only at hSw); go_simp; try with_reducible rfl)
  try simp only [Act.put, List.setIfInBounds_toArray, List.set_cons_zero, List.set_cons_succ]
  refine wpAnyH_take (i := 27) (oi := { dst := some 60, op := Op.pick (Operand.tmp 56) (Operand.tmp 59) (Operand.const (Value.bool false)), type := 4, pos := "law.go:17", after := #[{ on := 23, ground := Ground.data }, { on := 26, ground := Ground.data }], guard := none }) (v := ?_) rfl (by kernel_rfl) (by kernel_rfl) (by kernel_rfl) (fun _ _ _ h => h) (Or.inl ⟨by rfl, ?_⟩) hHeld ?_
  rotate_left
  · (intro wq hSw; (try dsimp only at hSw); go_simp; try with_reducible rfl)
  try simp only [Act.put, List.setIfInBounds_toArray, List.set_cons_zero, List.set_cons_succ]
  refine wpAnyH_take (i := 28) (oi := { dst := some 61, op := Op.move (Operand.tmp 60), type := 4, pos := "law.go:17", after := #[{ on := 27, ground := Ground.data }, { on := 23, ground := Ground.chain }], guard := none }) (v := ?_) rfl (by kernel_rfl) (by kernel_rfl) (by kernel_rfl) (fun _ _ _ h => h) (Or.inl ⟨by rfl, ?_⟩) hHeld ?_
  rotate_left
  · (intro wq hSw; (try dsimp only at hSw); go_simp; try with_reducible rfl)
  try simp only [Act.put, List.setIfInBounds_toArray, List.set_cons_zero, List.set_cons_succ]
  refine wpAnyH_take (i := 29) (oi := { dst := some 62, op := Op.load 24 (Operand.tmp 6), type := 24, pos := "law.go:17", after := #[{ on := 28, ground := Ground.guard }], guard := some (28, true) }) (v := ?_) rfl (by kernel_rfl) (by kernel_rfl) (by kernel_rfl) (fun _ _ _ h => h) (Or.inl ⟨by rfl, ?_⟩) hHeld ?_
  rotate_left
  · (intro wq hSw; (try dsimp only at hSw); go_simp; try with_reducible rfl)
  try simp only [Act.put, List.setIfInBounds_toArray, List.set_cons_zero, List.set_cons_succ]
  refine wpAnyH_ready (rs := [30]) (by kernel_rfl) (by simp) ?_
  refine AllReadyH.cons (o := { dst := some 63, op := Op.call { callee := Callee.value (Operand.func 16), args := #[Operand.const (Value.int IntKind.i64 5)], argTypes := #[3] }, type := 24, pos := "law.go:17", after := #[{ on := 28, ground := Ground.chain }, { on := 28, ground := Ground.guard }], guard := some (28, true) }) rfl (fun K hK => ?_) AllReadyH.nil
  have HKX := Lib.hid hK
  clear hK
  go_simp
  refine (rint_plain _ _).mono ?_
  rintro e wx ⟨rfl, ho⟩
  replace HA := Lib.hid (show LivS b1 b2 b5 b6 bl ol g a0 a1 a4 c0 c1 c4 wx ∧ Only (fun _ => False) w wx from ⟨HA.out.1.later ho, HA.out.2.same ho⟩)
  clear ho
  refine HKX.out _ _ HA.out.1.all (fun hHeld => ?_)
  clear HKX
  try simp only [Act.put, List.setIfInBounds_toArray, List.set_cons_zero, List.set_cons_succ]
  refine wpAnyH_ready (rs := [31]) (by kernel_rfl) (by simp) ?_
  refine AllReadyH.cons (o := { dst := some 64, op := Op.call { callee := Callee.value (Operand.func 14), args := #[Operand.const (Value.int IntKind.i64 1)], argTypes := #[3] }, type := 24, pos := "law.go:17", after := #[{ on := 30, ground := Ground.chain }, { on := 28, ground := Ground.guard }], guard := some (28, true) }) rfl (fun K hK => ?_) AllReadyH.nil
  have HKX := Lib.hid hK
  clear hK
  go_simp
  refine (rvar_plain _ _).mono ?_
  rintro e wx ⟨rfl, ho⟩
  replace HA := Lib.hid (show LivS b1 b2 b5 b6 bl ol g a0 a1 a4 c0 c1 c4 wx ∧ Only (fun _ => False) w wx from ⟨HA.out.1.later ho, HA.out.2.same ho⟩)
  clear ho
  refine HKX.out _ _ HA.out.1.all (fun hHeld => ?_)
  clear HKX
  try simp only [Act.put, List.setIfInBounds_toArray, List.set_cons_zero, List.set_cons_succ]
  refine wpAnyH_ready (rs := [32]) (by kernel_rfl) (by simp) ?_
  refine AllReadyH.cons (o := { dst := some 65, op := Op.call { callee := Callee.value (Operand.func 16), args := #[Operand.const (Value.int IntKind.i64 5)], argTypes := #[3] }, type := 24, pos := "law.go:17", after := #[{ on := 31, ground := Ground.chain }, { on := 28, ground := Ground.guard }], guard := some (28, true) }) rfl (fun K hK => ?_) AllReadyH.nil
  have HKX := Lib.hid hK
  clear hK
  go_simp
  refine (rint_plain _ _).mono ?_
  rintro e wx ⟨rfl, ho⟩
  replace HA := Lib.hid (show LivS b1 b2 b5 b6 bl ol g a0 a1 a4 c0 c1 c4 wx ∧ Only (fun _ => False) w wx from ⟨HA.out.1.later ho, HA.out.2.same ho⟩)
  clear ho
  refine HKX.out _ _ HA.out.1.all (fun hHeld => ?_)
  clear HKX
  try simp only [Act.put, List.setIfInBounds_toArray, List.set_cons_zero, List.set_cons_succ]
  refine wpAnyH_ready (rs := [33]) (by kernel_rfl) (by simp) ?_
  refine AllReadyH.cons (o := { dst := some 66, op := Op.buildSlice 22 3 #[(0, Operand.tmp 63), (1, Operand.tmp 64), (2, Operand.tmp 65)], type := 22, pos := "law.go:17", after := #[{ on := 30, ground := Ground.data }, { on := 31, ground := Ground.data }, { on := 32, ground := Ground.data }, { on := 28, ground := Ground.guard }], guard := some (28, true) }) rfl (fun K hK => ?_) AllReadyH.nil
  have HKX := Lib.hid hK
  clear hK
  go_simp
  refine HKX.out _ _ (HA.out.1.later (Only.alloc _ _ _)).all (fun hHeld => ?_)
  clear HKX
  try simp only [Act.put, List.setIfInBounds_toArray, List.set_cons_zero, List.set_cons_succ]
  have HB := Lib.hid (heap_alloc_new wx (.cells #[.int .i64 2, .int .i64 5, .string ⟨#[]⟩, .slice none 0 0, .int .i64 1, .int .i64 1, .string ⟨#[]⟩, .slice none 0 0, .int .i64 2, .int .i64 5, .string ⟨#[]⟩, .slice none 0 0] 24))
  replace HA := Lib.hid (show LivS b1 b2 b5 b6 bl ol g a0 a1 a4 c0 c1 c4 (World.alloc wx (.cells #[.int .i64 2, .int .i64 5, .string ⟨#[]⟩, .slice none 0 0, .int .i64 1, .int .i64 1, .string ⟨#[]⟩, .slice none 0 0, .int .i64 2, .int .i64 5, .string ⟨#[]⟩, .slice none 0 0] 24)) ∧ Only (fun _ => False) w (World.alloc wx (.cells #[.int .i64 2, .int .i64 5, .string ⟨#[]⟩, .slice none 0 0, .int .i64 1, .int .i64 1, .string ⟨#[]⟩, .slice none 0 0, .int .i64 2, .int .i64 5, .string ⟨#[]⟩, .slice none 0 0] 24)) from ⟨HA.out.1.later (Only.alloc _ wx _), HA.out.2.same (Only.alloc _ wx _)⟩)
  refine wpAnyH_ready (rs := [34]) (by kernel_rfl) (by simp) ?_
  refine AllReadyH.cons (o := { dst := some 67, op := Op.call { callee := Callee.value (Operand.func 20), args := #[Operand.const (Value.string { data := #[102] }), Operand.tmp 66], argTypes := #[9, 22] }, type := 24, pos := "law.go:17", after := #[{ on := 33, ground := Ground.data }, { on := 32, ground := Ground.chain }, { on := 28, ground := Ground.guard }], guard := some (28, true) }) rfl (fun K hK => ?_) AllReadyH.nil
  have HKX := Lib.hid hK
  clear hK
  go_simp
  refine (c_rcomp sF vC comp_v (by decide +kernel) (by decide) HB.out rfl leaves_v).mono ?_
  rintro e wx ⟨cv, ccv, rfl, hlv, ho⟩
  have HLV := Lib.hid hlv; clear hlv
  replace HA := Lib.hid (show LivS b1 b2 b5 b6 bl ol g a0 a1 a4 c0 c1 c4 wx ∧ Only (fun _ => False) w wx from ⟨HA.out.1.later ho, HA.out.2.same ho⟩)
  clear ho
  refine HKX.out _ _ HA.out.1.all (fun hHeld => ?_)
  clear HKX
  try simp only [Act.put, List.setIfInBounds_toArray, List.set_cons_zero, List.set_cons_succ]
  refine wpAnyH_ready (rs := [35]) (by kernel_rfl) (by simp) ?_
  refine AllReadyH.cons (o := { dst := some 68, op := Op.call { callee := Callee.value (Operand.func 12), args := #[Operand.tmp 62, Operand.tmp 67], argTypes := #[24, 24] }, type := 4, pos := "law.go:17", after := #[{ on := 29, ground := Ground.data }, { on := 34, ground := Ground.data }, { on := 34, ground := Ground.chain }, { on := 28, ground := Ground.guard }], guard := some (28, true) }) rfl (fun K hK => ?_) AllReadyH.nil
  have HKX := Lib.hid hK
  clear hK
  go_simp
  refine (c_exact c4 ccv true (T.eqb_refl vC) sane_vc sane_vc HA.out.1.v.l HLV.out).mono ?_
  rintro e wx ⟨rfl, ho⟩
  replace HA := Lib.hid (show LivS b1 b2 b5 b6 bl ol g a0 a1 a4 c0 c1 c4 wx ∧ Only (fun _ => False) w wx from ⟨HA.out.1.later ho, HA.out.2.same ho⟩)
  clear ho
  refine HKX.out _ _ HA.out.1.all (fun hHeld => ?_)
  clear HKX
  try simp only [Act.put, List.setIfInBounds_toArray, List.set_cons_zero, List.set_cons_succ]
  refine wpAnyH_take (i := 36) (oi := { dst := some 69, op := Op.pick (Operand.tmp 61) (Operand.tmp 68) (Operand.const (Value.bool false)), type := 4, pos := "law.go:17", after := #[{ on := 28, ground := Ground.data }, { on := 35, ground := Ground.data }], guard := none }) (v := ?_) rfl (by kernel_rfl) (by kernel_rfl) (by kernel_rfl) (fun _ _ _ h => h) (Or.inl ⟨by rfl, ?_⟩) hHeld ?_
  rotate_left
  · (intro wq hSw; (try dsimp only at hSw); go_simp; try with_reducible rfl)
  try simp only [Act.put, List.setIfInBounds_toArray, List.set_cons_zero, List.set_cons_succ]
  exact lives_lastB _ _ _ _ _ _ _ _ _ _ _ _ _ _ _ _ _ _ _ _ _ _ _ _ _ _ _ _ _ _ _ _ _ _ _ _ _ _ _ _ _ _ _ _ _ _ _ _ _ _ _ _ _ _ _ _ _ _ _ _ _ _ _ _ _ _ _ _ _ _ _ _ _ _ _ _ _ _ _ _ _ _ _ _ _ _ _ _ _ _ _ _ _ _ _ _ _ _ _ _ _ _ _ _ _ _ _ _ _ _ _ _ _ _ _ HA.out.1 HA.out.2 HQ.out
end Go.Proofs.Ytdpbbcjlbnangaa.terms
