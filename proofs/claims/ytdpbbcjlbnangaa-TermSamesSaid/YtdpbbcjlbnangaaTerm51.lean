/- Terms: what must come of every program: lives. -/
import Derived.Test.YtdpbbcjlbnangaaTerm50
import Derived.Deep.RegionHeld3
import Derived.Deep.DeepCutAuto
namespace Go.Proofs.Ytdpbbcjlbnangaa.terms
open Go.RowKit Go.Proofs.Ytdpbbcjlbnangaa.own Go.Maps
set_option maxRecDepth 100000 in
set_option maxHeartbeats 8000000 in
theorem lives_any (w : World) : Calls Try.prog 11 #[] w fun e w' => e = .returned (.bool true) ∧ Only (fun _ => False) w w' := by
  go_enter Try.func11, Try.ntmps11
  go_wp2_with fail
  refine (var_plain _ _).mono ?_
  rintro e w1 ⟨rfl, ho1⟩
  go_wp2_with fail
  refine (var_plain _ _).mono ?_
  rintro e w2 ⟨rfl, ho2⟩
  have HO2 := Lib.hid (ho1.same ho2)
  clear ho1 ho2
  go_wp2_with fail
  refine (var_plain _ _).mono ?_
  rintro e w3 ⟨rfl, ho3⟩
  have HO3 := Lib.hid (HO2.out.same ho3)
  clear ho3 HO2
  go_wp2_with fail
  refine (c_comp sF tC comp_t (by decide +kernel) (by decide +kernel) (heap_alloc_new w3 _) rfl leaves_t).mono ?_
  rintro e w4 ⟨a0, c0, rfl, hl4, ho4⟩
  have HO4 := Lib.hid ((HO3.out.same ((Only.alloc _ _ _).same ho4)).same (Only.alloc _ w4 (.cells #[.int .i64 tC.k, .int .i64 tC.n, .string tC.s, .slice a0 tC.l.length c0] 24)))
  have HT4 := Lib.hid (Held.new c0 hl4)
  clear ho4 HO3 hl4
  go_wp2_with fail
  refine (c_rename c0 HT4.out.l).mono ?_
  rintro e w5 ⟨a1, c1, rfl, hl5, ho5⟩
  have HT5 := Lib.hid (HT4.out.later ho5)
  have HO5 := Lib.hid (HO4.out.same ho5)
  generalize w4.heap.size = b1 at *
  go_wp2_with fail
  have HL6 : Hid (Liv1 b1 w5.heap.size a0 a1 c0 c1 (w5.alloc (.cells #[.int .i64 uC.k, .int .i64 uC.n, .string uC.s, .slice a1 uC.l.length c1] 24))) := Lib.hid ⟨HT5.out.later (Only.alloc _ _ _), Held.new c1 hl5⟩
  have HO6 := Lib.hid (HO5.out.same (Only.alloc _ w5 (.cells #[.int .i64 uC.k, .int .i64 uC.n, .string uC.s, .slice a1 uC.l.length c1] 24)))
  generalize w5.heap.size = b2 at *
  generalize w5.alloc (.cells #[.int .i64 uC.k, .int .i64 uC.n, .string uC.s, .slice a1 uC.l.length c1] 24) = w6 at *
  clear hl5 ho5 HT4 HT5 HO4 HO5
  refine (int_plain _ _).mono ?_
  rintro e w7 ⟨rfl, ho7⟩
  have HL7 := Lib.hid (HL6.out.later ho7)
  have HO7 := Lib.hid (HO6.out.same ho7)
  clear ho7 HL6 HO6
  go_wp2_with fail
  refine (atom_plain _ _).mono ?_
  rintro e w8 ⟨rfl, ho8⟩
  have HL8 := Lib.hid (HL7.out.later ho8)
  have HO8 := Lib.hid (HO7.out.same ho8)
  clear ho8 HL7 HO7
  go_wp2_with fail
  refine (atom_plain _ _).mono ?_
  rintro e w9 ⟨rfl, ho9⟩
  have HL9 := Lib.hid (HL8.out.later ((Only.alloc _ _ _).same ho9))
  have HO9 := Lib.hid (HO8.out.same ((Only.alloc _ _ _).same ho9))
  have hb9 := blk_later (heap_alloc_new w8 _) ho9
  have HB9 := Lib.hid hb9
  clear hb9 ho9 HL8 HO8
  go_wp2_with fail
  refine (c_list HB9.out).mono ?_
  rintro e w10 ⟨a2, c2, rfl, hl10, hs10, ho10⟩
  have HL10 := Lib.hid (HL9.out.later ho10)
  have HO10 := Lib.hid (HO9.out.same ho10)
  have HLI := Lib.hid hl10
  have HSI := Lib.hid hs10
  clear hl10 hs10 ho10 HL9 HO9 HB9
  go_wp2_with fail
  refine (c_items c2 HLI.out HSI.out).mono ?_
  rintro e w11 ⟨lo, lc, a3, c3, rfl, hli, ho11⟩
  have HL11 := Lib.hid (HL10.out.later ho11)
  have HO11 := Lib.hid (HO10.out.same ho11)
  have HIT11 := Lib.hid hli
  clear hli ho11 HL10 HO10 HLI HSI
  go_wp2_with fail
  have HTL : Hid ((w11.alloc (.cells #[.int .i64 3, .int .i64 0, .string sN, .slice a3 0 c3] 24)).cell? ⟨w11.heap.size, 2, none⟩ = some (.string sN) ∧ w11.heap.size < (w11.alloc (.cells #[.int .i64 3, .int .i64 0, .string sN, .slice a3 0 c3] 24)).heap.size) := Lib.hid ⟨by rw [cell_of_blk (heap_alloc_new w11 _)]; rfl, by simp⟩
  have HA12 := Lib.hid (Only.alloc (fun _ => False) w11 (.cells #[.int .i64 3, .int .i64 0, .string sN, .slice a3 0 c3] 24))
  generalize w11.heap.size = b5 at *
  generalize (w11.alloc (.cells #[.int .i64 3, .int .i64 0, .string sN, .slice a3 0 c3] 24)) = w12 at *
  have HL12 := Lib.hid (HL11.out.later HA12.out)
  have HO12 := Lib.hid (HO11.out.same HA12.out)
  have HIT12 := Lib.hid (HIT11.out.later HA12.out)
  clear HL11 HO11 HIT11 HA12
  have HD0 : Hid (Only (fun _ => False) w12 w12.drew) := Lib.hid (Only.drew _ _)
  have HK : Hid (∀ w', Only (fun _ => False) w12 w' → w'.cell? ⟨b2, 0, none⟩ = some (.int .i64 uC.k) ∧ w'.cell? ⟨b2, 1, none⟩ = some (.int .i64 uC.n) ∧ w'.cell? ⟨b2, 2, none⟩ = some (.string uC.s) ∧ w'.cell? ⟨b2, 3, none⟩ = some (.slice a1 uC.l.length c1)) := Lib.hid (fun w' ho => (HL12.out.later ho).u.q.cells)
  have HKS : Hid (∀ (b : Nat) (W : World) (y0 y1 y2 y3 : Value), w12.heap.size ≤ b → Only (fun _ => False) w12 W → Quad b (.int .i64 0) (.int .i64 0) (.string ⟨#[]⟩) (.slice none 0 0) W → (quadW W b y0 y1 y2 y3).cell? ⟨b2, 0, none⟩ = some (.int .i64 uC.k) ∧ (quadW W b y0 y1 y2 y3).cell? ⟨b2, 1, none⟩ = some (.int .i64 uC.n) ∧ (quadW W b y0 y1 y2 y3).cell? ⟨b2, 2, none⟩ = some (.string uC.s) ∧ (quadW W b y0 y1 y2 y3).cell? ⟨b2, 3, none⟩ = some (.slice a1 uC.l.length c1)) := Lib.hid (fun b W y0 y1 y2 y3 hb ho hq => HK.out _ (Only.cut ho (hq.set y0 y1 y2 y3).2 (fun k e => by omega)))
  have HXA : Hid (∀ w13 w14 (a4 : Option Addr), Only (fun _ => False) w12 w13 → Only (fun _ => False) ((w13.alloc (.cells #[.int .i64 2, .int .i64 5, .string ⟨#[]⟩, .slice none 0 0] 24)).alloc (.cells #[.int .i64 0, .int .i64 0, .string ⟨#[]⟩, .slice none 0 0] 24)) w14 → Row (Since ((w13.alloc (.cells #[.int .i64 2, .int .i64 5, .string ⟨#[]⟩, .slice none 0 0] 24)).alloc (.cells #[.int .i64 0, .int .i64 0, .string ⟨#[]⟩, .slice none 0 0] 24)) w14) w14 a4 vC.l → Quad (w13.heap.size + 1) (.int .i64 0) (.int .i64 0) (.string ⟨#[]⟩) (.slice none 0 0) w14 ∧ w12.heap.size ≤ w13.heap.size + 1 ∧ Row (fun q => w13.heap.size + 1 < q ∧ q < w14.heap.size) w14 a4 vC.l) := Lib.hid (fun w13 w14 a4 h h' hr => ⟨blk_later (by have := heap_alloc_new (w13.alloc (.cells #[.int .i64 2, .int .i64 5, .string ⟨#[]⟩, .slice none 0 0] 24)) (.cells #[.int .i64 0, .int .i64 0, .string ⟨#[]⟩, .slice none 0 0] 24); simpa using this) h', by have := h.size; omega, hr.mono (fun q hq => ⟨by have := hq.1; simp at this; omega, hq.2⟩)⟩)
  have HXB : Hid (∀ w13 w14 (a4 : Option Addr), Only (fun _ => False) w12 w13 → Only (fun _ => False) ((w13.alloc (.cells #[.int .i64 0, .int .i64 0, .string ⟨#[]⟩, .slice none 0 0] 24)).alloc (.cells #[.int .i64 2, .int .i64 5, .string ⟨#[]⟩, .slice none 0 0] 24)) w14 → Row (Since ((w13.alloc (.cells #[.int .i64 0, .int .i64 0, .string ⟨#[]⟩, .slice none 0 0] 24)).alloc (.cells #[.int .i64 2, .int .i64 5, .string ⟨#[]⟩, .slice none 0 0] 24)) w14) w14 a4 vC.l → Quad w13.heap.size (.int .i64 0) (.int .i64 0) (.string ⟨#[]⟩) (.slice none 0 0) w14 ∧ w12.heap.size ≤ w13.heap.size ∧ Row (fun q => w13.heap.size < q ∧ q < w14.heap.size) w14 a4 vC.l) := Lib.hid (fun w13 w14 a4 h h' hr => ⟨blk_later (blk_later (heap_alloc_new w13 (.cells #[.int .i64 0, .int .i64 0, .string ⟨#[]⟩, .slice none 0 0] 24)) (Only.alloc _ _ (.cells #[.int .i64 2, .int .i64 5, .string ⟨#[]⟩, .slice none 0 0] 24))) h', h.size, hr.mono (fun q hq => ⟨by have := hq.1; simp at this; omega, hq.2⟩)⟩)
  have HXC : Hid (∀ w13 w14 (a4 : Option Addr), Quad w12.heap.size (.int .i64 0) (.int .i64 0) (.string ⟨#[]⟩) (.slice none 0 0) w13 → Only (fun _ => False) (w13.alloc (.cells #[.int .i64 2, .int .i64 5, .string ⟨#[]⟩, .slice none 0 0] 24)) w14 → Row (Since (w13.alloc (.cells #[.int .i64 2, .int .i64 5, .string ⟨#[]⟩, .slice none 0 0] 24)) w14) w14 a4 vC.l → Quad w12.heap.size (.int .i64 0) (.int .i64 0) (.string ⟨#[]⟩) (.slice none 0 0) w14 ∧ w12.heap.size ≤ w12.heap.size ∧ Row (fun q => w12.heap.size < q ∧ q < w14.heap.size) w14 a4 vC.l) := Lib.hid (fun w13 w14 a4 h h' hr => ⟨(h.only (Only.alloc (fun _ => False) _ _) (fun e => e)).only h' (fun e => e), Nat.le_refl _, hr.mono (fun q hq => ⟨by have := hq.1; have := h.lt; simp at *; omega, hq.2⟩)⟩)
  have HXD : Hid (∀ w13, Only (fun _ => False) (w12.alloc (.cells #[.int .i64 0, .int .i64 0, .string ⟨#[]⟩, .slice none 0 0] 24)).drew w13 → Quad w12.heap.size (.int .i64 0) (.int .i64 0) (.string ⟨#[]⟩) (.slice none 0 0) w13 ∧ Only (fun _ => False) w12 w13) := Lib.hid (fun w13 h => ⟨blk_later (blk_later (heap_alloc_new w12 (.cells #[.int .i64 0, .int .i64 0, .string ⟨#[]⟩, .slice none 0 0] 24)) (Only.drew _ _)) h, ((Only.alloc _ w12 (.cells #[.int .i64 0, .int .i64 0, .string ⟨#[]⟩, .slice none 0 0] 24)).same (Only.drew _ _)).same h⟩)
  have HXF : Hid (∀ w13 : World, (w13.alloc (.cells #[.int .i64 2, .int .i64 5, .string ⟨#[]⟩, .slice none 0 0] 24)).heap[w13.heap.size]? = some (.cells #[.int .i64 2, .int .i64 5, .string ⟨#[]⟩, .slice none 0 0] 24 (0, 0)) ∧ ((w13.alloc (.cells #[.int .i64 2, .int .i64 5, .string ⟨#[]⟩, .slice none 0 0] 24)).alloc (.cells #[.int .i64 0, .int .i64 0, .string ⟨#[]⟩, .slice none 0 0] 24)).heap[w13.heap.size]? = some (.cells #[.int .i64 2, .int .i64 5, .string ⟨#[]⟩, .slice none 0 0] 24 (0, 0)) ∧ ((w13.alloc (.cells #[.int .i64 0, .int .i64 0, .string ⟨#[]⟩, .slice none 0 0] 24)).alloc (.cells #[.int .i64 2, .int .i64 5, .string ⟨#[]⟩, .slice none 0 0] 24)).heap[w13.heap.size + 1]? = some (.cells #[.int .i64 2, .int .i64 5, .string ⟨#[]⟩, .slice none 0 0] 24 (0, 0))) := Lib.hid (fun w13 => ⟨heap_alloc_new w13 _, blk_later (heap_alloc_new w13 _) (Only.alloc _ _ _), by have := heap_alloc_new (w13.alloc (.cells #[.int .i64 0, .int .i64 0, .string ⟨#[]⟩, .slice none 0 0] 24)) (.cells #[.int .i64 2, .int .i64 5, .string ⟨#[]⟩, .slice none 0 0] 24); simpa using this⟩)
  have HXH : Hid (∀ (b : Nat) (W : World) (a4 : Option Addr) (c4 : Nat), w12.heap.size ≤ b → Only (fun _ => False) w12 W → Row (fun q => b < q ∧ q < W.heap.size) W a4 vC.l → Quad b (.int .i64 0) (.int .i64 0) (.string ⟨#[]⟩) (.slice none 0 0) W → Held b vC a4 c4 (quadW W b (.int .i64 vC.k) (.int .i64 vC.n) (.string vC.s) (.slice a4 vC.l.length c4)) ∧ Only (fun _ => False) w12 (quadW W b (.int .i64 vC.k) (.int .i64 vC.n) (.string vC.s) (.slice a4 vC.l.length c4))) := Lib.hid (fun b W a4 c4 hb ho hl hq => by
    have hset := hq.set (.int .i64 vC.k) (.int .i64 vC.n) (.string vC.s) (.slice a4 vC.l.length c4)
    exact ⟨⟨hset.1, (hl.only hset.2 (fun q hq' => hq'.2) (fun q hq' e => by have := hq'.1; omega)).mono (fun q hq' => Nat.lt_of_lt_of_le hq'.2 hset.2.size)⟩, Only.cut ho hset.2 (fun k e => by omega)⟩)
  have HLIE : Hid (∀ w', Only (fun _ => False) w12 w' → Lies w' a1 uC.l) := Lib.hid (fun w' ho => (HL12.out.later ho).u.l)
  go_cut [6] (fun p wx => ∃ b6 a4 c4, p = .pointer (some ⟨b6, 0, none⟩) ∧ Hid (Held b6 vC a4 c4 wx ∧ Only (fun _ => False) w12 wx))
  case first =>
    go_region_held3 (fun w' => w'.cell? ⟨b2, 0, none⟩ = some (.int .i64 uC.k) ∧ w'.cell? ⟨b2, 1, none⟩ = some (.int .i64 uC.n) ∧ w'.cell? ⟨b2, 2, none⟩ = some (.string uC.s) ∧ w'.cell? ⟨b2, 3, none⟩ = some (.slice a1 uC.l.length c1)) (first | exact HK.out _ HD0.out | exact HK.out _ HO13.out | exact HK.out _ HO14.out | exact HK.out _ (HD0.out.same (Only.alloc _ _ _)) | exact HK.out _ ((Only.alloc _ _ _).same (Only.drew _ _)) | exact HK.out _ (HO13.out.same (Only.alloc _ _ _)) | exact HK.out _ ((HO13.out.same (Only.alloc _ _ _)).same (Only.alloc _ _ _)) | exact HK.out _ (HO14.out.same (Only.alloc _ _ _)) | exact HKS.out _ w14 _ _ _ _ HQ14.out.2.1 HO14.out HQ14.out.1 | go_keep) (first
      | (go_at_call 15; refine (int_plain 5 _).mono ?_; rintro e w13 ⟨rfl, ho13⟩
         first
           | (have HO13 : Hid (Only (fun _ => False) w12 w13) := Lib.hid (HD0.out.same ho13))
           | (have HD13 := Lib.hid (HXD.out w13 ho13)
              have HO13 : Hid (Only (fun _ => False) w12 w13) := Lib.hid HD13.out.2)
         clear ho13)
      | (go_at_call 37; refine (c_replace (ty := 24) c1 (HLIE.out _ ?_) ?_).mono ?_
         · first
             | exact HO13.out.same (Only.alloc _ _ _)
             | exact (HO13.out.same (Only.alloc _ _ _)).same (Only.alloc _ _ _)
         · first
             | exact (HXF.out w13).1
             | exact (HXF.out w13).2.1
             | exact (HXF.out w13).2.2
         rintro e w14 ⟨a4, c4, rfl, hl14, ho14⟩
         first
           | (have HO14 : Hid (Only (fun _ => False) w12 w14) := Lib.hid ((HO13.out.same (Only.alloc _ _ _)).same ho14))
           | (have HO14 : Hid (Only (fun _ => False) w12 w14) := Lib.hid (((HO13.out.same (Only.alloc _ _ _)).same (Only.alloc _ _ _)).same ho14))
         have HV14 := Lib.hid (hl14.mono (fun q (hq : Since _ _ q) => hq.2))
         first
           | (have HQ14 := Lib.hid (HXC.out w13 w14 _ HD13.out.1 ho14 hl14)
              obtain ⟨z0, z1, z2, z3⟩ := HQ14.out.1.cells
              obtain ⟨y0, y1, y2, y3⟩ := HQ14.out.1.free)
           | (have HQ14 := Lib.hid (HXA.out w13 w14 _ HO13.out ho14 hl14)
              obtain ⟨z0, z1, z2, z3⟩ := HQ14.out.1.cells
              obtain ⟨y0, y1, y2, y3⟩ := HQ14.out.1.free)
           | (have HQ14 := Lib.hid (HXB.out w13 w14 _ HO13.out ho14 hl14)
              obtain ⟨z0, z1, z2, z3⟩ := HQ14.out.1.cells
              obtain ⟨y0, y1, y2, y3⟩ := HQ14.out.1.free)
           | skip
         clear hl14 ho14))
    all_goals
      first
        | (have HVV := Lib.hid (HXH.out _ _ a4 c4 HQ14.out.2.1 HO14.out HQ14.out.2.2 HQ14.out.1)
           go_wp2_with fail
           go_meet
           case rel => exact ⟨_, a4, c4, rfl, HVV⟩)
        | (have HVV := Lib.hid (⟨Held.new c4 HV14.out, HO14.out.same (Only.alloc _ _ _)⟩ : Held w14.heap.size vC a4 c4 (w14.alloc (.cells #[.int .i64 vC.k, .int .i64 vC.n, .string vC.s, .slice a4 vC.l.length c4] 24)) ∧ Only (fun _ => False) w12 (w14.alloc (.cells #[.int .i64 vC.k, .int .i64 vC.n, .string vC.s, .slice a4 vC.l.length c4] 24)))
           go_wp2_with fail
           go_meet
           case rel => exact ⟨_, a4, c4, rfl, HVV⟩)
  case rest =>
    obtain ⟨b6, a4, c4, rfl, HVV⟩ := hcut
    clear HXA HXB HXC HXD HXF HXH HKS HK HLIE HD0
    have HLW := Lib.hid (HL12.out.later HVV.out.2)
    have HITW := Lib.hid (HIT12.out.later HVV.out.2)
    have HSW : Hid (wc.cell? ⟨b5, 2, none⟩ = some (.string ⟨#[91, 93]⟩) ∧ b5 < wc.heap.size) := Lib.hid ⟨(HVV.out.2.cell (p := ⟨b5, 2, none⟩) HTL.out.2 (fun e => e)).trans HTL.out.1, Nat.lt_of_lt_of_le HTL.out.2 HVV.out.2.size⟩
    have HOW := Lib.hid (HO12.out.same HVV.out.2)
    obtain ⟨bl, ol, _, _, rfl, hbl, _, hn0, _⟩ := HITW.out.at (i := 0) (x := iT 1) rfl
    simp only [Nat.zero_mul, Nat.add_zero] at hn0
    have HNW : Hid (wc.cell? ⟨bl, ol + 1, none⟩ = some (.int .i64 1) ∧ bl < wc.heap.size) := Lib.hid ⟨hn0, hbl⟩
    obtain ⟨p0, p1, p2, p3⟩ := HLW.out.t.q.cells
    clear HL12 HIT12 HTL HO12 HITW hbl hn0
    go_wp2_with fail
    refine (c_vars c0 HLW.out.t.l).mono ?_
    rintro e wd ⟨g, oc, rfl, hg, hx0, hx1, ho⟩
    have HA0 : Hid (LivS b1 b2 b5 b6 bl ol g a0 a1 a4 c0 c1 c4 wd ∧ Only (fun _ => False) w wd) := Lib.hid ⟨⟨HLW.out.t.later ho, HLW.out.u.later ho, HVV.out.1.later ho, ⟨(ho.cell (p := ⟨b5, 2, none⟩) HSW.out.2 (fun e => e)).trans HSW.out.1, Nat.lt_of_lt_of_le HSW.out.2 ho.size⟩, ⟨(ho.cell (p := ⟨bl, ol + 1, none⟩) HNW.out.2 (fun e => e)).trans HNW.out.1, Nat.lt_of_lt_of_le HNW.out.2 ho.size⟩, ⟨hx0, hg⟩, hx1⟩, HOW.out.same ho⟩
    clear HLW HVV HSW HNW HOW p0 p1 p2 p3 ho hg hx0 hx1
    have hk0 : (0 : Int) < ((2 : Nat) : Int) := by omega
    have hk1 : (1 : Int) < ((2 : Nat) : Int) := by omega
    go_wp2_with fail
    refine lives_last _ _ _ _ _ _ _ _ _ _ _ _ _ _ _ _ _ _ _ _ _ _ _ _ _ _ _ _ _ _ _ _ _ _ _ _ _ _ _ _ _ _ _ _ _ _ _ _ _ _ _ _ _ _ _ _ _ _ _ _ _ _ _ _ _ _ _ _ _ _ _ _ _ _ _ _ _ _ _ _ _ _ _ _ _ _ _ _ _ _ _ _ _ _ _ _ _ _ _ _ _ _ _ _ _ _ _ _ _ _ _ _ _ _ _ _ HA0.out.1 HA0.out.2 (fun a' W' h0 h1 ho => ?_)
    go_wp2_with fail
    refine bodyPost_ret (v := .bool true) ?_ h1 ⟨rfl, ho⟩
    have hr := results_tmp (fn := Try.f11) rfl a'.tmps Try.prog W'
    rw [h0] at hr
    exact hr
end Go.Proofs.Ytdpbbcjlbnangaa.terms
