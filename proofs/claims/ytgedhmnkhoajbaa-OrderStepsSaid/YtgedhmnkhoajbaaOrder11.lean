/- Order: what must come of every program. -/
import Derived.Test.YtgedhmnkhoajbaaOrder10
import Derived.Deep.RegionHeld3
namespace Go.Proofs.Ytgedhmnkhoajbaa.orders
open Go.RowKit Go.Proofs.Ytgedhmnkhoajbaa.own Go.Maps Go.Proofs.Ytgedhmnkhoajbaa.terms
/-- What lives has: two, later four terms. -/
structure LO (b1 b2 b3 b4 : Nat) (a3 a4 : Option Addr) (k3 k4 : Nat) (W : World) : Prop where
  i : Held b1 oI none 0 W
  a : Held b2 oA none 0 W
  c : Held b3 oC a3 k3 W
  d : Held b4 oD a4 k4 W
theorem LO.later {b1 b2 b3 b4 : Nat} {a3 a4 : Option Addr} {k3 k4 : Nat} {W W' : World} (h : LO b1 b2 b3 b4 a3 a4 k3 k4 W) (ho : Only (fun _ => False) W W') : LO b1 b2 b3 b4 a3 a4 k3 k4 W' := ⟨h.i.later ho, h.a.later ho, h.c.later ho, h.d.later ho⟩
abbrev LO16 (b1 b2 b3 b4 : Nat) (a3 a4 : Option Addr) (k3 k4 : Nat) (W : World) : Prop :=
  W.cell? ⟨b1, 0, none⟩ = some (.int .i64 2) ∧ W.cell? ⟨b1, 1, none⟩ = some (.int .i64 2) ∧ W.cell? ⟨b1, 2, none⟩ = some (.string ⟨#[]⟩) ∧ W.cell? ⟨b1, 3, none⟩ = some (.slice none 0 0) ∧
  W.cell? ⟨b2, 0, none⟩ = some (.int .i64 3) ∧ W.cell? ⟨b2, 1, none⟩ = some (.int .i64 0) ∧ W.cell? ⟨b2, 2, none⟩ = some (.string ⟨#[97]⟩) ∧ W.cell? ⟨b2, 3, none⟩ = some (.slice none 0 0) ∧
  W.cell? ⟨b3, 0, none⟩ = some (.int .i64 4) ∧ W.cell? ⟨b3, 1, none⟩ = some (.int .i64 0) ∧ W.cell? ⟨b3, 2, none⟩ = some (.string ⟨#[102]⟩) ∧ W.cell? ⟨b3, 3, none⟩ = some (.slice a3 1 k3) ∧
  W.cell? ⟨b4, 0, none⟩ = some (.int .i64 4) ∧ W.cell? ⟨b4, 1, none⟩ = some (.int .i64 0) ∧ W.cell? ⟨b4, 2, none⟩ = some (.string ⟨#[102]⟩) ∧ W.cell? ⟨b4, 3, none⟩ = some (.slice a4 2 k4)
theorem LO.all {b1 b2 b3 b4 : Nat} {a3 a4 : Option Addr} {k3 k4 : Nat} {W : World} (h : LO b1 b2 b3 b4 a3 a4 k3 k4 W) : LO16 b1 b2 b3 b4 a3 a4 k3 k4 W := by
  obtain ⟨p0, p1, p2, p3⟩ := h.i.q.cells
  obtain ⟨q0, q1, q2, q3⟩ := h.a.q.cells
  obtain ⟨r0, r1, r2, r3⟩ := h.c.q.cells
  obtain ⟨s0, s1, s2, s3⟩ := h.d.q.cells
  exact ⟨p0, p1, p2, p3, q0, q1, q2, q3, r0, r1, r2, r3, s0, s1, s2, s3⟩
set_option maxRecDepth 100000 in
set_option maxHeartbeats 8000000 in
theorem lives_any (w : World) : Calls Try.prog 9 #[] w fun e w' => e = .returned (.bool true) ∧ Only (fun _ => False) w w' := by
  go_enter Try.func9, Try.ntmps9
  go_wp2_with fail
  refine (o_int _ _).mono ?_
  rintro e w1 ⟨rfl, ho1⟩
  go_wp2_with fail
  refine (o_atom _ _).mono ?_
  rintro e w2 ⟨rfl, ho2⟩
  have HO2 := Lib.hid (ho1.same ho2)
  clear ho1 ho2
  go_wp2_with fail
  have HW : Hid (Only (fun _ => False) w ((w2.alloc (.cells #[.int .i64 2, .int .i64 2, .string ⟨#[]⟩, .slice none 0 0] 24)).alloc (.cells #[.int .i64 3, .int .i64 0, .string ⟨#[97]⟩, .slice none 0 0] 24))) := Lib.hid ((HO2.out.same (Only.alloc _ _ _)).same (Only.alloc _ _ _))
  have HI : Hid (Held w2.heap.size oI none 0 ((w2.alloc (.cells #[.int .i64 2, .int .i64 2, .string ⟨#[]⟩, .slice none 0 0] 24)).alloc (.cells #[.int .i64 3, .int .i64 0, .string ⟨#[97]⟩, .slice none 0 0] 24))) := Lib.hid ((Held.new (t := oI) (ao := none) 0 (Row.nil _ _ none)).later (Only.alloc _ _ _))
  have HA : Hid (Held (w2.heap.size + 1) oA none 0 ((w2.alloc (.cells #[.int .i64 2, .int .i64 2, .string ⟨#[]⟩, .slice none 0 0] 24)).alloc (.cells #[.int .i64 3, .int .i64 0, .string ⟨#[97]⟩, .slice none 0 0] 24))) := Lib.hid (by
    have h := Held.new (t := oA) (ao := none) 0 (W := w2.alloc (.cells #[.int .i64 2, .int .i64 2, .string ⟨#[]⟩, .slice none 0 0] 24)) (Row.nil _ _ none)
    rwa [show (w2.alloc (.cells #[.int .i64 2, .int .i64 2, .string ⟨#[]⟩, .slice none 0 0] 24)).heap.size = w2.heap.size + 1 by simp] at h)
  generalize (w2.alloc (.cells #[.int .i64 2, .int .i64 2, .string ⟨#[]⟩, .slice none 0 0] 24)).alloc (.cells #[.int .i64 3, .int .i64 0, .string ⟨#[97]⟩, .slice none 0 0] 24) = w3 at *
  clear HO2
  generalize w2.heap.size + 1 = b2 at *
  generalize w2.heap.size = b1 at *
  refine (o_int _ _).mono ?_
  rintro e w4 ⟨rfl, ho4⟩
  have HI4 := Lib.hid (HI.out.later ho4)
  have HA4 := Lib.hid (HA.out.later ho4)
  have HW4 := Lib.hid (HW.out.same ho4)
  clear ho4 HI HA HW
  go_wp2_with fail
  refine (o_comp1 _ _ (heap_alloc_new w4 _)).mono ?_
  rintro e w5 ⟨a3, k3, rfl, hl5, ho5⟩
  have HI5 := Lib.hid (HI4.out.later ((Only.alloc _ _ _).same ho5))
  have HA5 := Lib.hid (HA4.out.later ((Only.alloc _ _ _).same ho5))
  have HW5 := Lib.hid (HW4.out.same ((Only.alloc _ _ _).same ho5))
  have HC5 := Lib.hid hl5
  clear ho5 hl5 HI4 HA4 HW4
  go_wp2_with fail
  refine (o_int _ _).mono ?_
  rintro e w6 ⟨rfl, ho6⟩
  go_wp2_with fail
  refine (o_int _ _).mono ?_
  rintro e w7 ⟨rfl, ho7⟩
  have ho8 := ho6.same ho7
  have HI7 := Lib.hid (HI5.out.later ho8)
  have HA7 := Lib.hid (HA5.out.later ho8)
  have HW7 := Lib.hid (HW5.out.same ho8)
  have HC7 := Lib.hid (HC5.out.later ho8)
  clear ho6 ho7 ho8 HI5 HA5 HW5 HC5
  go_wp2_with fail
  refine (o_comp2 _ _ (heap_alloc_new w7 _)).mono ?_
  rintro e w8 ⟨a4, k4, rfl, hl8, ho8⟩
  have HI8 := Lib.hid (HI7.out.later ((Only.alloc _ _ _).same ho8))
  have HA8 := Lib.hid (HA7.out.later ((Only.alloc _ _ _).same ho8))
  have HW8 := Lib.hid (HW7.out.same ((Only.alloc _ _ _).same ho8))
  have HC8 := Lib.hid (HC7.out.later ((Only.alloc _ _ _).same ho8))
  have HD8 := Lib.hid hl8
  clear ho8 hl8 HI7 HA7 HW7 HC7
  have HOA : Hid (Only (fun _ => False) w8 ((w8.alloc (.cells #[.int .i64 4, .int .i64 0, .string ⟨#[102]⟩, .slice a3 1 k3] 24)).alloc (.cells #[.int .i64 4, .int .i64 0, .string ⟨#[102]⟩, .slice a4 2 k4] 24))) := Lib.hid ((Only.alloc _ _ _).same (Only.alloc _ _ _))
  have HL9 : Hid (LO b1 b2 w8.heap.size (w8.heap.size + 1) a3 a4 k3 k4 ((w8.alloc (.cells #[.int .i64 4, .int .i64 0, .string ⟨#[102]⟩, .slice a3 1 k3] 24)).alloc (.cells #[.int .i64 4, .int .i64 0, .string ⟨#[102]⟩, .slice a4 2 k4] 24))) := Lib.hid ⟨HI8.out.later HOA.out, HA8.out.later HOA.out, (Held.new (t := oC) k3 HC8.out).later (Only.alloc _ _ _), by
    have h := Held.new (t := oD) (ao := a4) k4 (W := w8.alloc (.cells #[.int .i64 4, .int .i64 0, .string ⟨#[102]⟩, .slice a3 1 k3] 24)) (HD8.out.later (Only.alloc _ _ _))
    rwa [show (w8.alloc (.cells #[.int .i64 4, .int .i64 0, .string ⟨#[102]⟩, .slice a3 1 k3] 24)).heap.size = w8.heap.size + 1 by simp] at h⟩
  have HW9 := Lib.hid (HW8.out.same HOA.out)
  obtain ⟨p0, p1, p2, p3, q0, q1, q2, q3, _⟩ := HL9.out.all
  clear HI8 HA8 HW8 HC8 HD8 HOA
  go_wp2_with fail
  clear p0 p1 p2 p3 q0 q1 q2 q3
  generalize ((w8.alloc (.cells #[.int .i64 4, .int .i64 0, .string ⟨#[102]⟩, .slice a3 1 k3] 24)).alloc (.cells #[.int .i64 4, .int .i64 0, .string ⟨#[102]⟩, .slice a4 2 k4] 24)) = w9 at *
  generalize w8.heap.size + 1 = b4 at *
  generalize w8.heap.size = b3 at *
  refine (o_cmp _).mono ?_
  rintro e w10 ⟨rfl, ho10⟩
  have HL10 := Lib.hid (HL9.out.later ho10)
  have HW10 := Lib.hid (HW9.out.same ho10)
  obtain ⟨p0, p1, p2, p3, q0, q1, q2, q3, r0, r1, r2, r3, s0, s1, s2, s3⟩ := HL10.out.all
  clear ho10 HL9 HW9
  go_wp2_with fail
  clear p0 p1 p2 p3 q0 q1 q2 q3 r0 r1 r2 r3 s0 s1 s2 s3
  have ha := Only.alloc (fun _ => False) w10 (.cells (c4 a3 a4 k3 k4) 24)
  refine (o_sort (heap_alloc_new w10 _) (HL10.out.c.l.later ha) (HL10.out.d.l.later ha)).mono ?_
  rintro e w11 ⟨g, cap, rfl, hl11, ho11⟩
  have HG11 := Lib.hid hl11
  have HL11 := Lib.hid (HL10.out.later (ha.same ho11))
  have HW11 := Lib.hid (HW10.out.same (ha.same ho11))
  obtain ⟨p0, p1, p2, p3, q0, q1, q2, q3, _⟩ := HL11.out.all
  clear ho11 hl11 ha HL10 HW10
  go_wp2_with fail
  clear p0 p1 p2 p3 q0 q1 q2 q3
  refine (o_merge (heap_alloc_new w11 _)).mono ?_
  rintro e w12 ⟨g2, cap2, rfl, ho12⟩
  have ho13 := (Only.alloc (fun _ => False) w11 (.cells c3 24)).same ho12
  have HG12 := Lib.hid (HG11.out.later ho13)
  have HL12 := Lib.hid (HL11.out.later ho13)
  have HW12 := Lib.hid (HW11.out.same ho13)
  obtain ⟨p0, p1, p2, p3, q0, q1, q2, q3, _⟩ := HL12.out.all
  clear ho12 ho13 HG11 HL11 HW11
  go_wp2_with fail
  clear p0 p1 p2 p3 q0 q1 q2 q3
  refine (o_least (heap_alloc_new w12 _)).mono ?_
  rintro e w13 ⟨rfl, ho13⟩
  have ho14 := (Only.alloc (fun _ => False) w12 (.cells c3 24)).same ho13
  have HG13 := Lib.hid (HG12.out.later ho14)
  have HL13 := Lib.hid (HL12.out.later ho14)
  have HW13 := Lib.hid (HW12.out.same ho14)
  clear ho13 ho14 HG12 HL12 HW12
  go_wp2_with fail
  refine (o_var _ _).mono ?_
  rintro e w14 ⟨rfl, ho14⟩
  go_wp2_with fail
  refine (o_var _ _).mono ?_
  rintro e w15 ⟨rfl, ho15⟩
  have ho16 := ho14.same ho15
  clear ho14 ho15
  go_wp2_with fail
  refine (o_cmpV _).mono ?_
  rintro e w17 ⟨rfl, ho17⟩
  have ho18 := ho16.same ho17
  have HG17 := Lib.hid (HG13.out.later ho18)
  have HL17 := Lib.hid (HL13.out.later ho18)
  have HW17 := Lib.hid (HW13.out.same ho18)
  clear ho16 ho17 ho18 HG13 HL13 HW13
  go_wp2_with fail
  refine (Least_none _).mono ?_
  rintro e w18 ⟨rfl, ho18⟩
  have HG18 := Lib.hid (HG17.out.later ho18)
  have HL18 := Lib.hid (HL17.out.later ho18)
  have HW18 := Lib.hid (HW17.out.same ho18)
  clear ho18 HG17 HL17 HW17
  obtain ⟨p0, p1, p2, p3, q0, q1, q2, q3, r0, r1, r2, r3, s0, s1, s2, s3⟩ := HL18.out.all
  go_wp2_with fail
  clear p0 p1 p2 p3 q0 q1 q2 q3 r0 r1 r2 r3 s0 s1 s2 s3
  have ha := Only.alloc (fun _ => False) w18 (.cells (r4 a3 a4 k3 k4) 24)
  refine (o_same (HG18.out.later ha) (heap_alloc_new w18 _) (HL18.out.c.l.later ha) (HL18.out.d.l.later ha)).mono ?_
  rintro e w19 ⟨rfl, ho19⟩
  have HW19 := Lib.hid (HW18.out.same (ha.same ho19))
  clear ha ho19 HG18 HL18 HW18
  go_wp2_with fail
  go_ret
  exact ⟨rfl, HW19.out⟩
end Go.Proofs.Ytgedhmnkhoajbaa.orders
