/- Arithmetic: numbers of two, the reference's. -/
import Derived.Test.YtleofkmfeooaaaaArith10
namespace Go.Proofs.Ytleofkmfeooaaaa.terms
set_option maxRecDepth 100000
open Go.RowKit Go.Proofs.Ytleofkmfeooaaaa.own Go.Maps
theorem fin_of (u : ByteArray) (a b v : Int) (hv : twoF u a b = v) (hd : divF u = false ∨ b ≠ 0) : finF u 2 a b = outF v := by
  unfold finF
  rw [if_neg (by omega), hv]
  rcases hd with hd | hd
  · rw [if_neg (by rw [hd]; exact Bool.false_ne_true)]
  · by_cases hdd : divF u = true
    · rw [if_pos hdd, if_neg hd]
    · rw [if_neg hdd]
set_option maxHeartbeats 2000000 in
theorem rtwo_0 (a b : Int) (w : World) (hs : True) (ha : Rng a) (hb : Rng b) : Calls Try.prog 77 #[.string ⟨#[45]⟩, .int .i64 a, .int .i64 b] w (AnsRk (finF ⟨#[45]⟩ 2 a b) w) := by
  have HQ0 := Lib.hid (Zero.new w)
  have HO0 : Hid (Only (fun _ => False) w (zeroW w)) := Lib.hid (Only.alloc _ _ _)
  have HZ0 : Hid ((zeroW w).heap.size = w.heap.size + 1) := Lib.hid (by simp)
  have HEV := Lib.hid (fun (u : ByteArray) (hu : u.size ≤ maxLen) W => reval_any u W hu)
  obtain ⟨d0, d1, d2, d3⟩ := HQ0.out.cells
  obtain ⟨e0, e1, e2, e3⟩ := HQ0.out.free
  have HTI := Lib.hid (fun W => times_any a b W ha hb)
  have HOV := Lib.hid (fun (n : Int) W => over_any n W)
  have hq := tdiv_rng (b := b) ha
  have hr := tmod_rng (b := b) ha
  obtain ⟨q0, q1⟩ := hq
  obtain ⟨r0, r1⟩ := hr
  obtain ⟨h0, h1⟩ := ha
  obtain ⟨h2, h3⟩ := hb
  have HQW : Hid (wrap64 (a.tdiv b) = a.tdiv b) := Lib.hid (by unfold wrap64; omega)
  · have HE := fin_of ⟨#[45]⟩ a b (a - b) (by kernel_rfl) (.inl (by kernel_rfl))
    cases hbq : (b == 0) with
    | false =>
      rw [HE]
      clear HE hs
      have HCL := Lib.hid (fun W => HOV.out (a - b) W)
      generalize outF (a - b) = R at *
      go_enter Try.func77, Try.ntmps77
      go_wp2_with fail
      cases R with
      | num m =>
        refine (HCL.out _).mono ?_
        intro e w2 h2
        obtain ⟨rfl, ho2⟩ := h2.num
        have HQ2 := Lib.hid (HQ0.out.only ho2 (fun e => e))
        have HO2 := Lib.hid (HO0.out.same ho2)
        clear h2 ho2 d0 d1 d2 d3 e0 e1 e2 e3
        obtain ⟨c0, c1, c2, c3⟩ := HQ2.out.cells
        obtain ⟨f0, f1, f2, f3⟩ := HQ2.out.free
        have HS2 := Lib.hid (HQ2.out.set (.int .i64 0) (.int .i64 0) (.string ⟨#[]⟩) (.slice none 0 0))
        go_wp2_with fail
        have hc := HS2.out.1.cells
        refine bodyPost_ret (v := .tuple #[.int .i64 m, .agg #[.int .i64 0, .int .i64 0, .string ⟨#[]⟩, .slice none 0 0], .bool true]) (results_rk rfl _ _ w.heap.size _ _ _ _ _ _ rfl rfl rfl hc.1 hc.2.1 hc.2.2.1 hc.2.2.2) rfl ?_
        exact ⟨rfl, Only.cut HO2.out HS2.out.2 (fun k e => by omega)⟩
      | ball y =>
        refine (HCL.out _).mono ?_
        intro e w2 h2
        obtain ⟨a2, p2, rfl, hl2, ho2⟩ := h2.ball
        have HL2 := Lib.hid hl2
        have HSZ2 := Lib.hid ho2.size
        have HQ2 := Lib.hid (HQ0.out.only ho2 (fun e => e))
        have HO2 := Lib.hid (HO0.out.same ho2)
        clear h2 hl2 ho2 d0 d1 d2 d3 e0 e1 e2 e3
        obtain ⟨c0, c1, c2, c3⟩ := HQ2.out.cells
        obtain ⟨f0, f1, f2, f3⟩ := HQ2.out.free
        have HS2 := Lib.hid (HQ2.out.set (.int .i64 4) (.int .i64 0) (.string nError) (.slice a2 1 p2))
        go_wp2_with fail
        have hc := HS2.out.1.cells
        refine bodyPost_ret (v := .tuple #[.int .i64 0, .agg #[.int .i64 4, .int .i64 0, .string nError, .slice a2 1 p2], .bool false]) (results_rk rfl _ _ w.heap.size _ _ _ _ _ _ rfl rfl rfl hc.1 hc.2.1 hc.2.2.1 hc.2.2.2) rfl ?_
        exact ⟨a2, p2, rfl, HL2.out.fin HS2.out.2 (by omega) (by simp) HSZ2.out no_lt, Only.cut HO2.out HS2.out.2 (fun k e => by omega)⟩
    | true =>
      rw [HE]
      clear HE hs
      have HCL := Lib.hid (fun W => HOV.out (a - b) W)
      generalize outF (a - b) = R at *
      go_enter Try.func77, Try.ntmps77
      go_wp2_with fail
      cases R with
      | num m =>
        refine (HCL.out _).mono ?_
        intro e w2 h2
        obtain ⟨rfl, ho2⟩ := h2.num
        have HQ2 := Lib.hid (HQ0.out.only ho2 (fun e => e))
        have HO2 := Lib.hid (HO0.out.same ho2)
        clear h2 ho2 d0 d1 d2 d3 e0 e1 e2 e3
        obtain ⟨c0, c1, c2, c3⟩ := HQ2.out.cells
        obtain ⟨f0, f1, f2, f3⟩ := HQ2.out.free
        have HS2 := Lib.hid (HQ2.out.set (.int .i64 0) (.int .i64 0) (.string ⟨#[]⟩) (.slice none 0 0))
        go_wp2_with fail
        have hc := HS2.out.1.cells
        refine bodyPost_ret (v := .tuple #[.int .i64 m, .agg #[.int .i64 0, .int .i64 0, .string ⟨#[]⟩, .slice none 0 0], .bool true]) (results_rk rfl _ _ w.heap.size _ _ _ _ _ _ rfl rfl rfl hc.1 hc.2.1 hc.2.2.1 hc.2.2.2) rfl ?_
        exact ⟨rfl, Only.cut HO2.out HS2.out.2 (fun k e => by omega)⟩
      | ball y =>
        refine (HCL.out _).mono ?_
        intro e w2 h2
        obtain ⟨a2, p2, rfl, hl2, ho2⟩ := h2.ball
        have HL2 := Lib.hid hl2
        have HSZ2 := Lib.hid ho2.size
        have HQ2 := Lib.hid (HQ0.out.only ho2 (fun e => e))
        have HO2 := Lib.hid (HO0.out.same ho2)
        clear h2 hl2 ho2 d0 d1 d2 d3 e0 e1 e2 e3
        obtain ⟨c0, c1, c2, c3⟩ := HQ2.out.cells
        obtain ⟨f0, f1, f2, f3⟩ := HQ2.out.free
        have HS2 := Lib.hid (HQ2.out.set (.int .i64 4) (.int .i64 0) (.string nError) (.slice a2 1 p2))
        go_wp2_with fail
        have hc := HS2.out.1.cells
        refine bodyPost_ret (v := .tuple #[.int .i64 0, .agg #[.int .i64 4, .int .i64 0, .string nError, .slice a2 1 p2], .bool false]) (results_rk rfl _ _ w.heap.size _ _ _ _ _ _ rfl rfl rfl hc.1 hc.2.1 hc.2.2.1 hc.2.2.2) rfl ?_
        exact ⟨a2, p2, rfl, HL2.out.fin HS2.out.2 (by omega) (by simp) HSZ2.out no_lt, Only.cut HO2.out HS2.out.2 (fun k e => by omega)⟩
set_option maxHeartbeats 2000000 in
theorem rtwo_1 (a b : Int) (w : World) (hs : True) (ha : Rng a) (hb : Rng b) : Calls Try.prog 77 #[.string ⟨#[43]⟩, .int .i64 a, .int .i64 b] w (AnsRk (finF ⟨#[43]⟩ 2 a b) w) := by
  have HQ0 := Lib.hid (Zero.new w)
  have HO0 : Hid (Only (fun _ => False) w (zeroW w)) := Lib.hid (Only.alloc _ _ _)
  have HZ0 : Hid ((zeroW w).heap.size = w.heap.size + 1) := Lib.hid (by simp)
  have HEV := Lib.hid (fun (u : ByteArray) (hu : u.size ≤ maxLen) W => reval_any u W hu)
  obtain ⟨d0, d1, d2, d3⟩ := HQ0.out.cells
  obtain ⟨e0, e1, e2, e3⟩ := HQ0.out.free
  have HTI := Lib.hid (fun W => times_any a b W ha hb)
  have HOV := Lib.hid (fun (n : Int) W => over_any n W)
  have hq := tdiv_rng (b := b) ha
  have hr := tmod_rng (b := b) ha
  obtain ⟨q0, q1⟩ := hq
  obtain ⟨r0, r1⟩ := hr
  obtain ⟨h0, h1⟩ := ha
  obtain ⟨h2, h3⟩ := hb
  have HQW : Hid (wrap64 (a.tdiv b) = a.tdiv b) := Lib.hid (by unfold wrap64; omega)
  · have HE := fin_of ⟨#[43]⟩ a b (a + b) (by kernel_rfl) (.inl (by kernel_rfl))
    cases hbq : (b == 0) with
    | false =>
      rw [HE]
      clear HE hs
      have HCL := Lib.hid (fun W => HOV.out (a + b) W)
      generalize outF (a + b) = R at *
      go_enter Try.func77, Try.ntmps77
      go_wp2_with fail
      cases R with
      | num m =>
        refine (HCL.out _).mono ?_
        intro e w2 h2
        obtain ⟨rfl, ho2⟩ := h2.num
        have HQ2 := Lib.hid (HQ0.out.only ho2 (fun e => e))
        have HO2 := Lib.hid (HO0.out.same ho2)
        clear h2 ho2 d0 d1 d2 d3 e0 e1 e2 e3
        obtain ⟨c0, c1, c2, c3⟩ := HQ2.out.cells
        obtain ⟨f0, f1, f2, f3⟩ := HQ2.out.free
        have HS2 := Lib.hid (HQ2.out.set (.int .i64 0) (.int .i64 0) (.string ⟨#[]⟩) (.slice none 0 0))
        go_wp2_with fail
        have hc := HS2.out.1.cells
        refine bodyPost_ret (v := .tuple #[.int .i64 m, .agg #[.int .i64 0, .int .i64 0, .string ⟨#[]⟩, .slice none 0 0], .bool true]) (results_rk rfl _ _ w.heap.size _ _ _ _ _ _ rfl rfl rfl hc.1 hc.2.1 hc.2.2.1 hc.2.2.2) rfl ?_
        exact ⟨rfl, Only.cut HO2.out HS2.out.2 (fun k e => by omega)⟩
      | ball y =>
        refine (HCL.out _).mono ?_
        intro e w2 h2
        obtain ⟨a2, p2, rfl, hl2, ho2⟩ := h2.ball
        have HL2 := Lib.hid hl2
        have HSZ2 := Lib.hid ho2.size
        have HQ2 := Lib.hid (HQ0.out.only ho2 (fun e => e))
        have HO2 := Lib.hid (HO0.out.same ho2)
        clear h2 hl2 ho2 d0 d1 d2 d3 e0 e1 e2 e3
        obtain ⟨c0, c1, c2, c3⟩ := HQ2.out.cells
        obtain ⟨f0, f1, f2, f3⟩ := HQ2.out.free
        have HS2 := Lib.hid (HQ2.out.set (.int .i64 4) (.int .i64 0) (.string nError) (.slice a2 1 p2))
        go_wp2_with fail
        have hc := HS2.out.1.cells
        refine bodyPost_ret (v := .tuple #[.int .i64 0, .agg #[.int .i64 4, .int .i64 0, .string nError, .slice a2 1 p2], .bool false]) (results_rk rfl _ _ w.heap.size _ _ _ _ _ _ rfl rfl rfl hc.1 hc.2.1 hc.2.2.1 hc.2.2.2) rfl ?_
        exact ⟨a2, p2, rfl, HL2.out.fin HS2.out.2 (by omega) (by simp) HSZ2.out no_lt, Only.cut HO2.out HS2.out.2 (fun k e => by omega)⟩
    | true =>
      rw [HE]
      clear HE hs
      have HCL := Lib.hid (fun W => HOV.out (a + b) W)
      generalize outF (a + b) = R at *
      go_enter Try.func77, Try.ntmps77
      go_wp2_with fail
      cases R with
      | num m =>
        refine (HCL.out _).mono ?_
        intro e w2 h2
        obtain ⟨rfl, ho2⟩ := h2.num
        have HQ2 := Lib.hid (HQ0.out.only ho2 (fun e => e))
        have HO2 := Lib.hid (HO0.out.same ho2)
        clear h2 ho2 d0 d1 d2 d3 e0 e1 e2 e3
        obtain ⟨c0, c1, c2, c3⟩ := HQ2.out.cells
        obtain ⟨f0, f1, f2, f3⟩ := HQ2.out.free
        have HS2 := Lib.hid (HQ2.out.set (.int .i64 0) (.int .i64 0) (.string ⟨#[]⟩) (.slice none 0 0))
        go_wp2_with fail
        have hc := HS2.out.1.cells
        refine bodyPost_ret (v := .tuple #[.int .i64 m, .agg #[.int .i64 0, .int .i64 0, .string ⟨#[]⟩, .slice none 0 0], .bool true]) (results_rk rfl _ _ w.heap.size _ _ _ _ _ _ rfl rfl rfl hc.1 hc.2.1 hc.2.2.1 hc.2.2.2) rfl ?_
        exact ⟨rfl, Only.cut HO2.out HS2.out.2 (fun k e => by omega)⟩
      | ball y =>
        refine (HCL.out _).mono ?_
        intro e w2 h2
        obtain ⟨a2, p2, rfl, hl2, ho2⟩ := h2.ball
        have HL2 := Lib.hid hl2
        have HSZ2 := Lib.hid ho2.size
        have HQ2 := Lib.hid (HQ0.out.only ho2 (fun e => e))
        have HO2 := Lib.hid (HO0.out.same ho2)
        clear h2 hl2 ho2 d0 d1 d2 d3 e0 e1 e2 e3
        obtain ⟨c0, c1, c2, c3⟩ := HQ2.out.cells
        obtain ⟨f0, f1, f2, f3⟩ := HQ2.out.free
        have HS2 := Lib.hid (HQ2.out.set (.int .i64 4) (.int .i64 0) (.string nError) (.slice a2 1 p2))
        go_wp2_with fail
        have hc := HS2.out.1.cells
        refine bodyPost_ret (v := .tuple #[.int .i64 0, .agg #[.int .i64 4, .int .i64 0, .string nError, .slice a2 1 p2], .bool false]) (results_rk rfl _ _ w.heap.size _ _ _ _ _ _ rfl rfl rfl hc.1 hc.2.1 hc.2.2.1 hc.2.2.2) rfl ?_
        exact ⟨a2, p2, rfl, HL2.out.fin HS2.out.2 (by omega) (by simp) HSZ2.out no_lt, Only.cut HO2.out HS2.out.2 (fun k e => by omega)⟩
set_option maxHeartbeats 2000000 in
theorem rtwo_2 (a b : Int) (w : World) (hs : True) (ha : Rng a) (hb : Rng b) : Calls Try.prog 77 #[.string ⟨#[42]⟩, .int .i64 a, .int .i64 b] w (AnsRk (finF ⟨#[42]⟩ 2 a b) w) := by
  have HQ0 := Lib.hid (Zero.new w)
  have HO0 : Hid (Only (fun _ => False) w (zeroW w)) := Lib.hid (Only.alloc _ _ _)
  have HZ0 : Hid ((zeroW w).heap.size = w.heap.size + 1) := Lib.hid (by simp)
  have HEV := Lib.hid (fun (u : ByteArray) (hu : u.size ≤ maxLen) W => reval_any u W hu)
  obtain ⟨d0, d1, d2, d3⟩ := HQ0.out.cells
  obtain ⟨e0, e1, e2, e3⟩ := HQ0.out.free
  have HTI := Lib.hid (fun W => times_any a b W ha hb)
  have HOV := Lib.hid (fun (n : Int) W => over_any n W)
  have hq := tdiv_rng (b := b) ha
  have hr := tmod_rng (b := b) ha
  obtain ⟨q0, q1⟩ := hq
  obtain ⟨r0, r1⟩ := hr
  obtain ⟨h0, h1⟩ := ha
  obtain ⟨h2, h3⟩ := hb
  have HQW : Hid (wrap64 (a.tdiv b) = a.tdiv b) := Lib.hid (by unfold wrap64; omega)
  · have HE := fin_of ⟨#[42]⟩ a b (a * b) (by kernel_rfl) (.inl (by kernel_rfl))
    cases hbq : (b == 0) with
    | false =>
      rw [HE]
      clear HE hs
      have HCL := HTI
      clear HTI
      generalize outF (a * b) = R at *
      go_enter Try.func77, Try.ntmps77
      go_wp2_with fail
      cases R with
      | num m =>
        refine (HCL.out _).mono ?_
        intro e w2 h2
        obtain ⟨rfl, ho2⟩ := h2.num
        have HQ2 := Lib.hid (HQ0.out.only ho2 (fun e => e))
        have HO2 := Lib.hid (HO0.out.same ho2)
        clear h2 ho2 d0 d1 d2 d3 e0 e1 e2 e3
        obtain ⟨c0, c1, c2, c3⟩ := HQ2.out.cells
        obtain ⟨f0, f1, f2, f3⟩ := HQ2.out.free
        have HS2 := Lib.hid (HQ2.out.set (.int .i64 0) (.int .i64 0) (.string ⟨#[]⟩) (.slice none 0 0))
        go_wp2_with fail
        have hc := HS2.out.1.cells
        refine bodyPost_ret (v := .tuple #[.int .i64 m, .agg #[.int .i64 0, .int .i64 0, .string ⟨#[]⟩, .slice none 0 0], .bool true]) (results_rk rfl _ _ w.heap.size _ _ _ _ _ _ rfl rfl rfl hc.1 hc.2.1 hc.2.2.1 hc.2.2.2) rfl ?_
        exact ⟨rfl, Only.cut HO2.out HS2.out.2 (fun k e => by omega)⟩
      | ball y =>
        refine (HCL.out _).mono ?_
        intro e w2 h2
        obtain ⟨a2, p2, rfl, hl2, ho2⟩ := h2.ball
        have HL2 := Lib.hid hl2
        have HSZ2 := Lib.hid ho2.size
        have HQ2 := Lib.hid (HQ0.out.only ho2 (fun e => e))
        have HO2 := Lib.hid (HO0.out.same ho2)
        clear h2 hl2 ho2 d0 d1 d2 d3 e0 e1 e2 e3
        obtain ⟨c0, c1, c2, c3⟩ := HQ2.out.cells
        obtain ⟨f0, f1, f2, f3⟩ := HQ2.out.free
        have HS2 := Lib.hid (HQ2.out.set (.int .i64 4) (.int .i64 0) (.string nError) (.slice a2 1 p2))
        go_wp2_with fail
        have hc := HS2.out.1.cells
        refine bodyPost_ret (v := .tuple #[.int .i64 0, .agg #[.int .i64 4, .int .i64 0, .string nError, .slice a2 1 p2], .bool false]) (results_rk rfl _ _ w.heap.size _ _ _ _ _ _ rfl rfl rfl hc.1 hc.2.1 hc.2.2.1 hc.2.2.2) rfl ?_
        exact ⟨a2, p2, rfl, HL2.out.fin HS2.out.2 (by omega) (by simp) HSZ2.out no_lt, Only.cut HO2.out HS2.out.2 (fun k e => by omega)⟩
    | true =>
      rw [HE]
      clear HE hs
      have HCL := HTI
      clear HTI
      generalize outF (a * b) = R at *
      go_enter Try.func77, Try.ntmps77
      go_wp2_with fail
      cases R with
      | num m =>
        refine (HCL.out _).mono ?_
        intro e w2 h2
        obtain ⟨rfl, ho2⟩ := h2.num
        have HQ2 := Lib.hid (HQ0.out.only ho2 (fun e => e))
        have HO2 := Lib.hid (HO0.out.same ho2)
        clear h2 ho2 d0 d1 d2 d3 e0 e1 e2 e3
        obtain ⟨c0, c1, c2, c3⟩ := HQ2.out.cells
        obtain ⟨f0, f1, f2, f3⟩ := HQ2.out.free
        have HS2 := Lib.hid (HQ2.out.set (.int .i64 0) (.int .i64 0) (.string ⟨#[]⟩) (.slice none 0 0))
        go_wp2_with fail
        have hc := HS2.out.1.cells
        refine bodyPost_ret (v := .tuple #[.int .i64 m, .agg #[.int .i64 0, .int .i64 0, .string ⟨#[]⟩, .slice none 0 0], .bool true]) (results_rk rfl _ _ w.heap.size _ _ _ _ _ _ rfl rfl rfl hc.1 hc.2.1 hc.2.2.1 hc.2.2.2) rfl ?_
        exact ⟨rfl, Only.cut HO2.out HS2.out.2 (fun k e => by omega)⟩
      | ball y =>
        refine (HCL.out _).mono ?_
        intro e w2 h2
        obtain ⟨a2, p2, rfl, hl2, ho2⟩ := h2.ball
        have HL2 := Lib.hid hl2
        have HSZ2 := Lib.hid ho2.size
        have HQ2 := Lib.hid (HQ0.out.only ho2 (fun e => e))
        have HO2 := Lib.hid (HO0.out.same ho2)
        clear h2 hl2 ho2 d0 d1 d2 d3 e0 e1 e2 e3
        obtain ⟨c0, c1, c2, c3⟩ := HQ2.out.cells
        obtain ⟨f0, f1, f2, f3⟩ := HQ2.out.free
        have HS2 := Lib.hid (HQ2.out.set (.int .i64 4) (.int .i64 0) (.string nError) (.slice a2 1 p2))
        go_wp2_with fail
        have hc := HS2.out.1.cells
        refine bodyPost_ret (v := .tuple #[.int .i64 0, .agg #[.int .i64 4, .int .i64 0, .string nError, .slice a2 1 p2], .bool false]) (results_rk rfl _ _ w.heap.size _ _ _ _ _ _ rfl rfl rfl hc.1 hc.2.1 hc.2.2.1 hc.2.2.2) rfl ?_
        exact ⟨a2, p2, rfl, HL2.out.fin HS2.out.2 (by omega) (by simp) HSZ2.out no_lt, Only.cut HO2.out HS2.out.2 (fun k e => by omega)⟩
set_option maxHeartbeats 2000000 in
theorem rtwo_3 (a b : Int) (w : World) (hs : True) (ha : Rng a) (hb : Rng b) : Calls Try.prog 77 #[.string ⟨#[47, 47]⟩, .int .i64 a, .int .i64 b] w (AnsRk (finF ⟨#[47, 47]⟩ 2 a b) w) := by
  have HQ0 := Lib.hid (Zero.new w)
  have HO0 : Hid (Only (fun _ => False) w (zeroW w)) := Lib.hid (Only.alloc _ _ _)
  have HZ0 : Hid ((zeroW w).heap.size = w.heap.size + 1) := Lib.hid (by simp)
  have HEV := Lib.hid (fun (u : ByteArray) (hu : u.size ≤ maxLen) W => reval_any u W hu)
  obtain ⟨d0, d1, d2, d3⟩ := HQ0.out.cells
  obtain ⟨e0, e1, e2, e3⟩ := HQ0.out.free
  have HTI := Lib.hid (fun W => times_any a b W ha hb)
  have HOV := Lib.hid (fun (n : Int) W => over_any n W)
  have hq := tdiv_rng (b := b) ha
  have hr := tmod_rng (b := b) ha
  obtain ⟨q0, q1⟩ := hq
  obtain ⟨r0, r1⟩ := hr
  obtain ⟨h0, h1⟩ := ha
  obtain ⟨h2, h3⟩ := hb
  have HQW : Hid (wrap64 (a.tdiv b) = a.tdiv b) := Lib.hid (by unfold wrap64; omega)
  · by_cases hbz : b = 0
    · subst hbz
      have HE : finF ⟨#[47, 47]⟩ 2 a 0 = .ball (evalF nZero) := by kernel_rfl
      rw [HE]
      clear HE hs
      go_enter Try.func77, Try.ntmps77
      go_wp2_with fail
      refine (HEV.out nZero (by decide +kernel) _).mono ?_
      rintro e w1 ⟨a1, p1, rfl, hl1, ho1⟩
      have HL1 := Lib.hid hl1
      have HSZ1 := Lib.hid ho1.size
      have HO1 := Lib.hid (HO0.out.same ho1)
      have HQ1 := Lib.hid (HQ0.out.only ho1 (fun e => e))
      have HS1 := Lib.hid (HQ1.out.set (.int .i64 4) (.int .i64 0) (.string nError) (.slice a1 1 p1))
      clear d0 d1 d2 d3 e0 e1 e2 e3 hl1 ho1
      obtain ⟨c0, c1, c2, c3⟩ := HQ1.out.cells
      obtain ⟨f0, f1, f2, f3⟩ := HQ1.out.free
      go_wp2_with fail
      have hc := HS1.out.1.cells
      refine bodyPost_ret (v := .tuple #[.int .i64 0, .agg #[.int .i64 4, .int .i64 0, .string nError, .slice a1 1 p1], .bool false]) (results_rk rfl _ _ w.heap.size _ _ _ _ _ _ rfl rfl rfl hc.1 hc.2.1 hc.2.2.1 hc.2.2.2) rfl ?_
      exact ⟨a1, p1, rfl, HL1.out.fin HS1.out.2 (by omega) (by simp) HSZ1.out no_lt, Only.cut HO1.out HS1.out.2 (fun k e => by omega)⟩
    · have hbb : (b == 0) = false := by simpa using hbz
      have HE := fin_of ⟨#[47, 47]⟩ a b (a.tdiv b) (by kernel_rfl) (.inr hbz)
      rw [HE]
      clear HE hs
      have HCL := Lib.hid (fun W => HOV.out (a.tdiv b) W)
      generalize outF (a.tdiv b) = R at *
      go_enter Try.func77, Try.ntmps77
      go_wp2_with fail
      try rw [HQW.out]
      cases R with
      | num m =>
        refine (HCL.out _).mono ?_
        intro e w2 h2
        obtain ⟨rfl, ho2⟩ := h2.num
        have HQ2 := Lib.hid (HQ0.out.only ho2 (fun e => e))
        have HO2 := Lib.hid (HO0.out.same ho2)
        clear h2 ho2 d0 d1 d2 d3 e0 e1 e2 e3
        obtain ⟨c0, c1, c2, c3⟩ := HQ2.out.cells
        obtain ⟨f0, f1, f2, f3⟩ := HQ2.out.free
        have HS2 := Lib.hid (HQ2.out.set (.int .i64 0) (.int .i64 0) (.string ⟨#[]⟩) (.slice none 0 0))
        go_wp2_with fail
        have hc := HS2.out.1.cells
        refine bodyPost_ret (v := .tuple #[.int .i64 m, .agg #[.int .i64 0, .int .i64 0, .string ⟨#[]⟩, .slice none 0 0], .bool true]) (results_rk rfl _ _ w.heap.size _ _ _ _ _ _ rfl rfl rfl hc.1 hc.2.1 hc.2.2.1 hc.2.2.2) rfl ?_
        exact ⟨rfl, Only.cut HO2.out HS2.out.2 (fun k e => by omega)⟩
      | ball y =>
        refine (HCL.out _).mono ?_
        intro e w2 h2
        obtain ⟨a2, p2, rfl, hl2, ho2⟩ := h2.ball
        have HL2 := Lib.hid hl2
        have HSZ2 := Lib.hid ho2.size
        have HQ2 := Lib.hid (HQ0.out.only ho2 (fun e => e))
        have HO2 := Lib.hid (HO0.out.same ho2)
        clear h2 hl2 ho2 d0 d1 d2 d3 e0 e1 e2 e3
        obtain ⟨c0, c1, c2, c3⟩ := HQ2.out.cells
        obtain ⟨f0, f1, f2, f3⟩ := HQ2.out.free
        have HS2 := Lib.hid (HQ2.out.set (.int .i64 4) (.int .i64 0) (.string nError) (.slice a2 1 p2))
        go_wp2_with fail
        have hc := HS2.out.1.cells
        refine bodyPost_ret (v := .tuple #[.int .i64 0, .agg #[.int .i64 4, .int .i64 0, .string nError, .slice a2 1 p2], .bool false]) (results_rk rfl _ _ w.heap.size _ _ _ _ _ _ rfl rfl rfl hc.1 hc.2.1 hc.2.2.1 hc.2.2.2) rfl ?_
        exact ⟨a2, p2, rfl, HL2.out.fin HS2.out.2 (by omega) (by simp) HSZ2.out no_lt, Only.cut HO2.out HS2.out.2 (fun k e => by omega)⟩
set_option maxHeartbeats 2000000 in
theorem rtwo_4 (a b : Int) (w : World) (hs : True) (ha : Rng a) (hb : Rng b) : Calls Try.prog 77 #[.string ⟨#[109, 111, 100]⟩, .int .i64 a, .int .i64 b] w (AnsRk (finF ⟨#[109, 111, 100]⟩ 2 a b) w) := by
  have HQ0 := Lib.hid (Zero.new w)
  have HO0 : Hid (Only (fun _ => False) w (zeroW w)) := Lib.hid (Only.alloc _ _ _)
  have HZ0 : Hid ((zeroW w).heap.size = w.heap.size + 1) := Lib.hid (by simp)
  have HEV := Lib.hid (fun (u : ByteArray) (hu : u.size ≤ maxLen) W => reval_any u W hu)
  obtain ⟨d0, d1, d2, d3⟩ := HQ0.out.cells
  obtain ⟨e0, e1, e2, e3⟩ := HQ0.out.free
  have HTI := Lib.hid (fun W => times_any a b W ha hb)
  have HOV := Lib.hid (fun (n : Int) W => over_any n W)
  have hq := tdiv_rng (b := b) ha
  have hr := tmod_rng (b := b) ha
  obtain ⟨q0, q1⟩ := hq
  obtain ⟨r0, r1⟩ := hr
  obtain ⟨h0, h1⟩ := ha
  obtain ⟨h2, h3⟩ := hb
  have HQW : Hid (wrap64 (a.tdiv b) = a.tdiv b) := Lib.hid (by unfold wrap64; omega)
  · by_cases hbz : b = 0
    · subst hbz
      have HE : finF ⟨#[109, 111, 100]⟩ 2 a 0 = .ball (evalF nZero) := by kernel_rfl
      rw [HE]
      clear HE hs
      go_enter Try.func77, Try.ntmps77
      go_wp2_with fail
      refine (HEV.out nZero (by decide +kernel) _).mono ?_
      rintro e w1 ⟨a1, p1, rfl, hl1, ho1⟩
      have HL1 := Lib.hid hl1
      have HSZ1 := Lib.hid ho1.size
      have HO1 := Lib.hid (HO0.out.same ho1)
      have HQ1 := Lib.hid (HQ0.out.only ho1 (fun e => e))
      have HS1 := Lib.hid (HQ1.out.set (.int .i64 4) (.int .i64 0) (.string nError) (.slice a1 1 p1))
      clear d0 d1 d2 d3 e0 e1 e2 e3 hl1 ho1
      obtain ⟨c0, c1, c2, c3⟩ := HQ1.out.cells
      obtain ⟨f0, f1, f2, f3⟩ := HQ1.out.free
      go_wp2_with fail
      have hc := HS1.out.1.cells
      refine bodyPost_ret (v := .tuple #[.int .i64 0, .agg #[.int .i64 4, .int .i64 0, .string nError, .slice a1 1 p1], .bool false]) (results_rk rfl _ _ w.heap.size _ _ _ _ _ _ rfl rfl rfl hc.1 hc.2.1 hc.2.2.1 hc.2.2.2) rfl ?_
      exact ⟨a1, p1, rfl, HL1.out.fin HS1.out.2 (by omega) (by simp) HSZ1.out no_lt, Only.cut HO1.out HS1.out.2 (fun k e => by omega)⟩
    · have hbb : (b == 0) = false := by simpa using hbz
      have HE := fin_of ⟨#[109, 111, 100]⟩ a b (modF a b) (by kernel_rfl) (.inr hbz)
      rw [HE]
      clear HE hs
      by_cases z0 : a.tmod b = 0
      · have n0 : (a.tmod b != 0) = false := by simp [z0]
        have HV : modF a b = 0 := by unfold modF; rw [if_neg (fun h => h.1 z0), z0]
        rw [HV]
        clear HV
        have HCL := Lib.hid (fun W => HOV.out (0) W)
        generalize outF (0) = R at *
        go_enter Try.func77, Try.ntmps77
        go_wp2_with fail
        cases R with
        | num m =>
          refine (HCL.out _).mono ?_
          intro e w2 h2
          obtain ⟨rfl, ho2⟩ := h2.num
          have HQ2 := Lib.hid (HQ0.out.only ho2 (fun e => e))
          have HO2 := Lib.hid (HO0.out.same ho2)
          clear h2 ho2 d0 d1 d2 d3 e0 e1 e2 e3
          obtain ⟨c0, c1, c2, c3⟩ := HQ2.out.cells
          obtain ⟨f0, f1, f2, f3⟩ := HQ2.out.free
          have HS2 := Lib.hid (HQ2.out.set (.int .i64 0) (.int .i64 0) (.string ⟨#[]⟩) (.slice none 0 0))
          go_wp2_with fail
          have hc := HS2.out.1.cells
          refine bodyPost_ret (v := .tuple #[.int .i64 m, .agg #[.int .i64 0, .int .i64 0, .string ⟨#[]⟩, .slice none 0 0], .bool true]) (results_rk rfl _ _ w.heap.size _ _ _ _ _ _ rfl rfl rfl hc.1 hc.2.1 hc.2.2.1 hc.2.2.2) rfl ?_
          exact ⟨rfl, Only.cut HO2.out HS2.out.2 (fun k e => by omega)⟩
        | ball y =>
          refine (HCL.out _).mono ?_
          intro e w2 h2
          obtain ⟨a2, p2, rfl, hl2, ho2⟩ := h2.ball
          have HL2 := Lib.hid hl2
          have HSZ2 := Lib.hid ho2.size
          have HQ2 := Lib.hid (HQ0.out.only ho2 (fun e => e))
          have HO2 := Lib.hid (HO0.out.same ho2)
          clear h2 hl2 ho2 d0 d1 d2 d3 e0 e1 e2 e3
          obtain ⟨c0, c1, c2, c3⟩ := HQ2.out.cells
          obtain ⟨f0, f1, f2, f3⟩ := HQ2.out.free
          have HS2 := Lib.hid (HQ2.out.set (.int .i64 4) (.int .i64 0) (.string nError) (.slice a2 1 p2))
          go_wp2_with fail
          have hc := HS2.out.1.cells
          refine bodyPost_ret (v := .tuple #[.int .i64 0, .agg #[.int .i64 4, .int .i64 0, .string nError, .slice a2 1 p2], .bool false]) (results_rk rfl _ _ w.heap.size _ _ _ _ _ _ rfl rfl rfl hc.1 hc.2.1 hc.2.2.1 hc.2.2.2) rfl ?_
          exact ⟨a2, p2, rfl, HL2.out.fin HS2.out.2 (by omega) (by simp) HSZ2.out no_lt, Only.cut HO2.out HS2.out.2 (fun k e => by omega)⟩
      · have n0 : (a.tmod b != 0) = true := by simpa using z0
        have HWW : Hid (wrap64 (a.tmod b + b) = a.tmod b + b) := Lib.hid (by unfold wrap64; omega)
        by_cases z1 : a.tmod b < 0
        · have n1 : decide (a.tmod b < 0) = true := decide_eq_true z1
          by_cases z2 : b < 0
          · have n2 : decide (b < 0) = true := decide_eq_true z2
            have HV : modF a b = a.tmod b := by unfold modF; rw [if_neg (fun h => h.2 (by omega))]
            rw [HV]
            clear HV
            have HCL := Lib.hid (fun W => HOV.out (a.tmod b) W)
            generalize outF (a.tmod b) = R at *
            go_enter Try.func77, Try.ntmps77
            go_wp2_with fail
            cases R with
            | num m =>
              refine (HCL.out _).mono ?_
              intro e w2 h2
              obtain ⟨rfl, ho2⟩ := h2.num
              have HQ2 := Lib.hid (HQ0.out.only ho2 (fun e => e))
              have HO2 := Lib.hid (HO0.out.same ho2)
              clear h2 ho2 d0 d1 d2 d3 e0 e1 e2 e3
              obtain ⟨c0, c1, c2, c3⟩ := HQ2.out.cells
              obtain ⟨f0, f1, f2, f3⟩ := HQ2.out.free
              have HS2 := Lib.hid (HQ2.out.set (.int .i64 0) (.int .i64 0) (.string ⟨#[]⟩) (.slice none 0 0))
              go_wp2_with fail
              have hc := HS2.out.1.cells
              refine bodyPost_ret (v := .tuple #[.int .i64 m, .agg #[.int .i64 0, .int .i64 0, .string ⟨#[]⟩, .slice none 0 0], .bool true]) (results_rk rfl _ _ w.heap.size _ _ _ _ _ _ rfl rfl rfl hc.1 hc.2.1 hc.2.2.1 hc.2.2.2) rfl ?_
              exact ⟨rfl, Only.cut HO2.out HS2.out.2 (fun k e => by omega)⟩
            | ball y =>
              refine (HCL.out _).mono ?_
              intro e w2 h2
              obtain ⟨a2, p2, rfl, hl2, ho2⟩ := h2.ball
              have HL2 := Lib.hid hl2
              have HSZ2 := Lib.hid ho2.size
              have HQ2 := Lib.hid (HQ0.out.only ho2 (fun e => e))
              have HO2 := Lib.hid (HO0.out.same ho2)
              clear h2 hl2 ho2 d0 d1 d2 d3 e0 e1 e2 e3
              obtain ⟨c0, c1, c2, c3⟩ := HQ2.out.cells
              obtain ⟨f0, f1, f2, f3⟩ := HQ2.out.free
              have HS2 := Lib.hid (HQ2.out.set (.int .i64 4) (.int .i64 0) (.string nError) (.slice a2 1 p2))
              go_wp2_with fail
              have hc := HS2.out.1.cells
              refine bodyPost_ret (v := .tuple #[.int .i64 0, .agg #[.int .i64 4, .int .i64 0, .string nError, .slice a2 1 p2], .bool false]) (results_rk rfl _ _ w.heap.size _ _ _ _ _ _ rfl rfl rfl hc.1 hc.2.1 hc.2.2.1 hc.2.2.2) rfl ?_
              exact ⟨a2, p2, rfl, HL2.out.fin HS2.out.2 (by omega) (by simp) HSZ2.out no_lt, Only.cut HO2.out HS2.out.2 (fun k e => by omega)⟩
          · have n2 : decide (b < 0) = false := decide_eq_false z2
            have HV : modF a b = a.tmod b + b := by unfold modF; rw [if_pos ⟨z0, by omega⟩]
            rw [HV]
            clear HV
            have HCL := Lib.hid (fun W => HOV.out (a.tmod b + b) W)
            generalize outF (a.tmod b + b) = R at *
            go_enter Try.func77, Try.ntmps77
            go_wp2_with fail
            try rw [HWW.out]
            cases R with
            | num m =>
              refine (HCL.out _).mono ?_
              intro e w2 h2
              obtain ⟨rfl, ho2⟩ := h2.num
              have HQ2 := Lib.hid (HQ0.out.only ho2 (fun e => e))
              have HO2 := Lib.hid (HO0.out.same ho2)
              clear h2 ho2 d0 d1 d2 d3 e0 e1 e2 e3
              obtain ⟨c0, c1, c2, c3⟩ := HQ2.out.cells
              obtain ⟨f0, f1, f2, f3⟩ := HQ2.out.free
              have HS2 := Lib.hid (HQ2.out.set (.int .i64 0) (.int .i64 0) (.string ⟨#[]⟩) (.slice none 0 0))
              go_wp2_with fail
              have hc := HS2.out.1.cells
              refine bodyPost_ret (v := .tuple #[.int .i64 m, .agg #[.int .i64 0, .int .i64 0, .string ⟨#[]⟩, .slice none 0 0], .bool true]) (results_rk rfl _ _ w.heap.size _ _ _ _ _ _ rfl rfl rfl hc.1 hc.2.1 hc.2.2.1 hc.2.2.2) rfl ?_
              exact ⟨rfl, Only.cut HO2.out HS2.out.2 (fun k e => by omega)⟩
            | ball y =>
              refine (HCL.out _).mono ?_
              intro e w2 h2
              obtain ⟨a2, p2, rfl, hl2, ho2⟩ := h2.ball
              have HL2 := Lib.hid hl2
              have HSZ2 := Lib.hid ho2.size
              have HQ2 := Lib.hid (HQ0.out.only ho2 (fun e => e))
              have HO2 := Lib.hid (HO0.out.same ho2)
              clear h2 hl2 ho2 d0 d1 d2 d3 e0 e1 e2 e3
              obtain ⟨c0, c1, c2, c3⟩ := HQ2.out.cells
              obtain ⟨f0, f1, f2, f3⟩ := HQ2.out.free
              have HS2 := Lib.hid (HQ2.out.set (.int .i64 4) (.int .i64 0) (.string nError) (.slice a2 1 p2))
              go_wp2_with fail
              have hc := HS2.out.1.cells
              refine bodyPost_ret (v := .tuple #[.int .i64 0, .agg #[.int .i64 4, .int .i64 0, .string nError, .slice a2 1 p2], .bool false]) (results_rk rfl _ _ w.heap.size _ _ _ _ _ _ rfl rfl rfl hc.1 hc.2.1 hc.2.2.1 hc.2.2.2) rfl ?_
              exact ⟨a2, p2, rfl, HL2.out.fin HS2.out.2 (by omega) (by simp) HSZ2.out no_lt, Only.cut HO2.out HS2.out.2 (fun k e => by omega)⟩
        · have n1 : decide (a.tmod b < 0) = false := decide_eq_false z1
          by_cases z2 : b < 0
          · have n2 : decide (b < 0) = true := decide_eq_true z2
            have HV : modF a b = a.tmod b + b := by unfold modF; rw [if_pos ⟨z0, by omega⟩]
            rw [HV]
            clear HV
            have HCL := Lib.hid (fun W => HOV.out (a.tmod b + b) W)
            generalize outF (a.tmod b + b) = R at *
            go_enter Try.func77, Try.ntmps77
            go_wp2_with fail
            try rw [HWW.out]
            cases R with
            | num m =>
              refine (HCL.out _).mono ?_
              intro e w2 h2
              obtain ⟨rfl, ho2⟩ := h2.num
              have HQ2 := Lib.hid (HQ0.out.only ho2 (fun e => e))
              have HO2 := Lib.hid (HO0.out.same ho2)
              clear h2 ho2 d0 d1 d2 d3 e0 e1 e2 e3
              obtain ⟨c0, c1, c2, c3⟩ := HQ2.out.cells
              obtain ⟨f0, f1, f2, f3⟩ := HQ2.out.free
              have HS2 := Lib.hid (HQ2.out.set (.int .i64 0) (.int .i64 0) (.string ⟨#[]⟩) (.slice none 0 0))
              go_wp2_with fail
              have hc := HS2.out.1.cells
              refine bodyPost_ret (v := .tuple #[.int .i64 m, .agg #[.int .i64 0, .int .i64 0, .string ⟨#[]⟩, .slice none 0 0], .bool true]) (results_rk rfl _ _ w.heap.size _ _ _ _ _ _ rfl rfl rfl hc.1 hc.2.1 hc.2.2.1 hc.2.2.2) rfl ?_
              exact ⟨rfl, Only.cut HO2.out HS2.out.2 (fun k e => by omega)⟩
            | ball y =>
              refine (HCL.out _).mono ?_
              intro e w2 h2
              obtain ⟨a2, p2, rfl, hl2, ho2⟩ := h2.ball
              have HL2 := Lib.hid hl2
              have HSZ2 := Lib.hid ho2.size
              have HQ2 := Lib.hid (HQ0.out.only ho2 (fun e => e))
              have HO2 := Lib.hid (HO0.out.same ho2)
              clear h2 hl2 ho2 d0 d1 d2 d3 e0 e1 e2 e3
              obtain ⟨c0, c1, c2, c3⟩ := HQ2.out.cells
              obtain ⟨f0, f1, f2, f3⟩ := HQ2.out.free
              have HS2 := Lib.hid (HQ2.out.set (.int .i64 4) (.int .i64 0) (.string nError) (.slice a2 1 p2))
              go_wp2_with fail
              have hc := HS2.out.1.cells
              refine bodyPost_ret (v := .tuple #[.int .i64 0, .agg #[.int .i64 4, .int .i64 0, .string nError, .slice a2 1 p2], .bool false]) (results_rk rfl _ _ w.heap.size _ _ _ _ _ _ rfl rfl rfl hc.1 hc.2.1 hc.2.2.1 hc.2.2.2) rfl ?_
              exact ⟨a2, p2, rfl, HL2.out.fin HS2.out.2 (by omega) (by simp) HSZ2.out no_lt, Only.cut HO2.out HS2.out.2 (fun k e => by omega)⟩
          · have n2 : decide (b < 0) = false := decide_eq_false z2
            have HV : modF a b = a.tmod b := by unfold modF; rw [if_neg (fun h => h.2 (by omega))]
            rw [HV]
            clear HV
            have HCL := Lib.hid (fun W => HOV.out (a.tmod b) W)
            generalize outF (a.tmod b) = R at *
            go_enter Try.func77, Try.ntmps77
            go_wp2_with fail
            cases R with
            | num m =>
              refine (HCL.out _).mono ?_
              intro e w2 h2
              obtain ⟨rfl, ho2⟩ := h2.num
              have HQ2 := Lib.hid (HQ0.out.only ho2 (fun e => e))
              have HO2 := Lib.hid (HO0.out.same ho2)
              clear h2 ho2 d0 d1 d2 d3 e0 e1 e2 e3
              obtain ⟨c0, c1, c2, c3⟩ := HQ2.out.cells
              obtain ⟨f0, f1, f2, f3⟩ := HQ2.out.free
              have HS2 := Lib.hid (HQ2.out.set (.int .i64 0) (.int .i64 0) (.string ⟨#[]⟩) (.slice none 0 0))
              go_wp2_with fail
              have hc := HS2.out.1.cells
              refine bodyPost_ret (v := .tuple #[.int .i64 m, .agg #[.int .i64 0, .int .i64 0, .string ⟨#[]⟩, .slice none 0 0], .bool true]) (results_rk rfl _ _ w.heap.size _ _ _ _ _ _ rfl rfl rfl hc.1 hc.2.1 hc.2.2.1 hc.2.2.2) rfl ?_
              exact ⟨rfl, Only.cut HO2.out HS2.out.2 (fun k e => by omega)⟩
            | ball y =>
              refine (HCL.out _).mono ?_
              intro e w2 h2
              obtain ⟨a2, p2, rfl, hl2, ho2⟩ := h2.ball
              have HL2 := Lib.hid hl2
              have HSZ2 := Lib.hid ho2.size
              have HQ2 := Lib.hid (HQ0.out.only ho2 (fun e => e))
              have HO2 := Lib.hid (HO0.out.same ho2)
              clear h2 hl2 ho2 d0 d1 d2 d3 e0 e1 e2 e3
              obtain ⟨c0, c1, c2, c3⟩ := HQ2.out.cells
              obtain ⟨f0, f1, f2, f3⟩ := HQ2.out.free
              have HS2 := Lib.hid (HQ2.out.set (.int .i64 4) (.int .i64 0) (.string nError) (.slice a2 1 p2))
              go_wp2_with fail
              have hc := HS2.out.1.cells
              refine bodyPost_ret (v := .tuple #[.int .i64 0, .agg #[.int .i64 4, .int .i64 0, .string nError, .slice a2 1 p2], .bool false]) (results_rk rfl _ _ w.heap.size _ _ _ _ _ _ rfl rfl rfl hc.1 hc.2.1 hc.2.2.1 hc.2.2.2) rfl ?_
              exact ⟨a2, p2, rfl, HL2.out.fin HS2.out.2 (by omega) (by simp) HSZ2.out no_lt, Only.cut HO2.out HS2.out.2 (fun k e => by omega)⟩
set_option maxHeartbeats 2000000 in
theorem rtwo_5 (a b : Int) (w : World) (hs : True) (ha : Rng a) (hb : Rng b) : Calls Try.prog 77 #[.string ⟨#[114, 101, 109]⟩, .int .i64 a, .int .i64 b] w (AnsRk (finF ⟨#[114, 101, 109]⟩ 2 a b) w) := by
  have HQ0 := Lib.hid (Zero.new w)
  have HO0 : Hid (Only (fun _ => False) w (zeroW w)) := Lib.hid (Only.alloc _ _ _)
  have HZ0 : Hid ((zeroW w).heap.size = w.heap.size + 1) := Lib.hid (by simp)
  have HEV := Lib.hid (fun (u : ByteArray) (hu : u.size ≤ maxLen) W => reval_any u W hu)
  obtain ⟨d0, d1, d2, d3⟩ := HQ0.out.cells
  obtain ⟨e0, e1, e2, e3⟩ := HQ0.out.free
  have HTI := Lib.hid (fun W => times_any a b W ha hb)
  have HOV := Lib.hid (fun (n : Int) W => over_any n W)
  have hq := tdiv_rng (b := b) ha
  have hr := tmod_rng (b := b) ha
  obtain ⟨q0, q1⟩ := hq
  obtain ⟨r0, r1⟩ := hr
  obtain ⟨h0, h1⟩ := ha
  obtain ⟨h2, h3⟩ := hb
  have HQW : Hid (wrap64 (a.tdiv b) = a.tdiv b) := Lib.hid (by unfold wrap64; omega)
  · by_cases hbz : b = 0
    · subst hbz
      have HE : finF ⟨#[114, 101, 109]⟩ 2 a 0 = .ball (evalF nZero) := by kernel_rfl
      rw [HE]
      clear HE hs
      go_enter Try.func77, Try.ntmps77
      go_wp2_with fail
      refine (HEV.out nZero (by decide +kernel) _).mono ?_
      rintro e w1 ⟨a1, p1, rfl, hl1, ho1⟩
      have HL1 := Lib.hid hl1
      have HSZ1 := Lib.hid ho1.size
      have HO1 := Lib.hid (HO0.out.same ho1)
      have HQ1 := Lib.hid (HQ0.out.only ho1 (fun e => e))
      have HS1 := Lib.hid (HQ1.out.set (.int .i64 4) (.int .i64 0) (.string nError) (.slice a1 1 p1))
      clear d0 d1 d2 d3 e0 e1 e2 e3 hl1 ho1
      obtain ⟨c0, c1, c2, c3⟩ := HQ1.out.cells
      obtain ⟨f0, f1, f2, f3⟩ := HQ1.out.free
      go_wp2_with fail
      have hc := HS1.out.1.cells
      refine bodyPost_ret (v := .tuple #[.int .i64 0, .agg #[.int .i64 4, .int .i64 0, .string nError, .slice a1 1 p1], .bool false]) (results_rk rfl _ _ w.heap.size _ _ _ _ _ _ rfl rfl rfl hc.1 hc.2.1 hc.2.2.1 hc.2.2.2) rfl ?_
      exact ⟨a1, p1, rfl, HL1.out.fin HS1.out.2 (by omega) (by simp) HSZ1.out no_lt, Only.cut HO1.out HS1.out.2 (fun k e => by omega)⟩
    · have hbb : (b == 0) = false := by simpa using hbz
      have HE := fin_of ⟨#[114, 101, 109]⟩ a b (a.tmod b) (by kernel_rfl) (.inr hbz)
      rw [HE]
      clear HE hs
      have HCL := Lib.hid (fun W => HOV.out (a.tmod b) W)
      generalize outF (a.tmod b) = R at *
      go_enter Try.func77, Try.ntmps77
      go_wp2_with fail
      cases R with
      | num m =>
        refine (HCL.out _).mono ?_
        intro e w2 h2
        obtain ⟨rfl, ho2⟩ := h2.num
        have HQ2 := Lib.hid (HQ0.out.only ho2 (fun e => e))
        have HO2 := Lib.hid (HO0.out.same ho2)
        clear h2 ho2 d0 d1 d2 d3 e0 e1 e2 e3
        obtain ⟨c0, c1, c2, c3⟩ := HQ2.out.cells
        obtain ⟨f0, f1, f2, f3⟩ := HQ2.out.free
        have HS2 := Lib.hid (HQ2.out.set (.int .i64 0) (.int .i64 0) (.string ⟨#[]⟩) (.slice none 0 0))
        go_wp2_with fail
        have hc := HS2.out.1.cells
        refine bodyPost_ret (v := .tuple #[.int .i64 m, .agg #[.int .i64 0, .int .i64 0, .string ⟨#[]⟩, .slice none 0 0], .bool true]) (results_rk rfl _ _ w.heap.size _ _ _ _ _ _ rfl rfl rfl hc.1 hc.2.1 hc.2.2.1 hc.2.2.2) rfl ?_
        exact ⟨rfl, Only.cut HO2.out HS2.out.2 (fun k e => by omega)⟩
      | ball y =>
        refine (HCL.out _).mono ?_
        intro e w2 h2
        obtain ⟨a2, p2, rfl, hl2, ho2⟩ := h2.ball
        have HL2 := Lib.hid hl2
        have HSZ2 := Lib.hid ho2.size
        have HQ2 := Lib.hid (HQ0.out.only ho2 (fun e => e))
        have HO2 := Lib.hid (HO0.out.same ho2)
        clear h2 hl2 ho2 d0 d1 d2 d3 e0 e1 e2 e3
        obtain ⟨c0, c1, c2, c3⟩ := HQ2.out.cells
        obtain ⟨f0, f1, f2, f3⟩ := HQ2.out.free
        have HS2 := Lib.hid (HQ2.out.set (.int .i64 4) (.int .i64 0) (.string nError) (.slice a2 1 p2))
        go_wp2_with fail
        have hc := HS2.out.1.cells
        refine bodyPost_ret (v := .tuple #[.int .i64 0, .agg #[.int .i64 4, .int .i64 0, .string nError, .slice a2 1 p2], .bool false]) (results_rk rfl _ _ w.heap.size _ _ _ _ _ _ rfl rfl rfl hc.1 hc.2.1 hc.2.2.1 hc.2.2.2) rfl ?_
        exact ⟨a2, p2, rfl, HL2.out.fin HS2.out.2 (by omega) (by simp) HSZ2.out no_lt, Only.cut HO2.out HS2.out.2 (fun k e => by omega)⟩
set_option maxHeartbeats 2000000 in
theorem rtwo_6 (a b : Int) (w : World) (hs : True) (ha : Rng a) (hb : Rng b) : Calls Try.prog 77 #[.string ⟨#[109, 105, 110]⟩, .int .i64 a, .int .i64 b] w (AnsRk (finF ⟨#[109, 105, 110]⟩ 2 a b) w) := by
  have HQ0 := Lib.hid (Zero.new w)
  have HO0 : Hid (Only (fun _ => False) w (zeroW w)) := Lib.hid (Only.alloc _ _ _)
  have HZ0 : Hid ((zeroW w).heap.size = w.heap.size + 1) := Lib.hid (by simp)
  have HEV := Lib.hid (fun (u : ByteArray) (hu : u.size ≤ maxLen) W => reval_any u W hu)
  obtain ⟨d0, d1, d2, d3⟩ := HQ0.out.cells
  obtain ⟨e0, e1, e2, e3⟩ := HQ0.out.free
  have HTI := Lib.hid (fun W => times_any a b W ha hb)
  have HOV := Lib.hid (fun (n : Int) W => over_any n W)
  have hq := tdiv_rng (b := b) ha
  have hr := tmod_rng (b := b) ha
  obtain ⟨q0, q1⟩ := hq
  obtain ⟨r0, r1⟩ := hr
  obtain ⟨h0, h1⟩ := ha
  obtain ⟨h2, h3⟩ := hb
  have HQW : Hid (wrap64 (a.tdiv b) = a.tdiv b) := Lib.hid (by unfold wrap64; omega)
  · have HE := fin_of ⟨#[109, 105, 110]⟩ a b (min a b) (by kernel_rfl) (.inl (by kernel_rfl))
    cases hbq : (b == 0) with
    | false =>
      by_cases hab : a ≤ b
      · have HV : min a b = a := by omega
        rw [HE, HV, outF_in ⟨by omega, by omega⟩]
        clear HE hs HV
        have hba : ¬ b < a := by omega
        go_enter Try.func77, Try.ntmps77
        go_wp2_with fail
        have hc := HQ0.out.cells
        refine bodyPost_ret (v := .tuple #[.int .i64 (a), .agg #[.int .i64 0, .int .i64 0, .string ⟨#[]⟩, .slice none 0 0], .bool true]) (results_rk rfl _ _ w.heap.size _ _ _ _ _ _ rfl rfl rfl hc.1 hc.2.1 hc.2.2.1 hc.2.2.2) rfl ?_
        exact ⟨rfl, HO0.out⟩
      · have HV : min a b = b := by omega
        rw [HE, HV, outF_in ⟨by omega, by omega⟩]
        clear HE hs HV
        have hba : b < a := by omega
        have hba2 : ¬ a < b := by omega
        go_enter Try.func77, Try.ntmps77
        go_wp2_with fail
        have hc := HQ0.out.cells
        refine bodyPost_ret (v := .tuple #[.int .i64 (b), .agg #[.int .i64 0, .int .i64 0, .string ⟨#[]⟩, .slice none 0 0], .bool true]) (results_rk rfl _ _ w.heap.size _ _ _ _ _ _ rfl rfl rfl hc.1 hc.2.1 hc.2.2.1 hc.2.2.2) rfl ?_
        exact ⟨rfl, HO0.out⟩
    | true =>
      by_cases hab : a ≤ b
      · have HV : min a b = a := by omega
        rw [HE, HV, outF_in ⟨by omega, by omega⟩]
        clear HE hs HV
        have hba : ¬ b < a := by omega
        go_enter Try.func77, Try.ntmps77
        go_wp2_with fail
        have hc := HQ0.out.cells
        refine bodyPost_ret (v := .tuple #[.int .i64 (a), .agg #[.int .i64 0, .int .i64 0, .string ⟨#[]⟩, .slice none 0 0], .bool true]) (results_rk rfl _ _ w.heap.size _ _ _ _ _ _ rfl rfl rfl hc.1 hc.2.1 hc.2.2.1 hc.2.2.2) rfl ?_
        exact ⟨rfl, HO0.out⟩
      · have HV : min a b = b := by omega
        rw [HE, HV, outF_in ⟨by omega, by omega⟩]
        clear HE hs HV
        have hba : b < a := by omega
        have hba2 : ¬ a < b := by omega
        go_enter Try.func77, Try.ntmps77
        go_wp2_with fail
        have hc := HQ0.out.cells
        refine bodyPost_ret (v := .tuple #[.int .i64 (b), .agg #[.int .i64 0, .int .i64 0, .string ⟨#[]⟩, .slice none 0 0], .bool true]) (results_rk rfl _ _ w.heap.size _ _ _ _ _ _ rfl rfl rfl hc.1 hc.2.1 hc.2.2.1 hc.2.2.2) rfl ?_
        exact ⟨rfl, HO0.out⟩
set_option maxHeartbeats 2000000 in
theorem rtwo_7 (a b : Int) (w : World) (hs : True) (ha : Rng a) (hb : Rng b) : Calls Try.prog 77 #[.string ⟨#[109, 97, 120]⟩, .int .i64 a, .int .i64 b] w (AnsRk (finF ⟨#[109, 97, 120]⟩ 2 a b) w) := by
  have HQ0 := Lib.hid (Zero.new w)
  have HO0 : Hid (Only (fun _ => False) w (zeroW w)) := Lib.hid (Only.alloc _ _ _)
  have HZ0 : Hid ((zeroW w).heap.size = w.heap.size + 1) := Lib.hid (by simp)
  have HEV := Lib.hid (fun (u : ByteArray) (hu : u.size ≤ maxLen) W => reval_any u W hu)
  obtain ⟨d0, d1, d2, d3⟩ := HQ0.out.cells
  obtain ⟨e0, e1, e2, e3⟩ := HQ0.out.free
  have HTI := Lib.hid (fun W => times_any a b W ha hb)
  have HOV := Lib.hid (fun (n : Int) W => over_any n W)
  have hq := tdiv_rng (b := b) ha
  have hr := tmod_rng (b := b) ha
  obtain ⟨q0, q1⟩ := hq
  obtain ⟨r0, r1⟩ := hr
  obtain ⟨h0, h1⟩ := ha
  obtain ⟨h2, h3⟩ := hb
  have HQW : Hid (wrap64 (a.tdiv b) = a.tdiv b) := Lib.hid (by unfold wrap64; omega)
  · have HE := fin_of ⟨#[109, 97, 120]⟩ a b (max a b) (by kernel_rfl) (.inl (by kernel_rfl))
    cases hbq : (b == 0) with
    | false =>
      by_cases hab : a ≤ b
      · have HV : max a b = b := by omega
        rw [HE, HV, outF_in ⟨by omega, by omega⟩]
        clear HE hs HV
        by_cases hlt : a < b
        · go_enter Try.func77, Try.ntmps77
          go_wp2_with fail
          have hc := HQ0.out.cells
          refine bodyPost_ret (v := .tuple #[.int .i64 (b), .agg #[.int .i64 0, .int .i64 0, .string ⟨#[]⟩, .slice none 0 0], .bool true]) (results_rk rfl _ _ w.heap.size _ _ _ _ _ _ rfl rfl rfl hc.1 hc.2.1 hc.2.2.1 hc.2.2.2) rfl ?_
          exact ⟨rfl, HO0.out⟩
        · obtain rfl : a = b := by omega
          go_enter Try.func77, Try.ntmps77
          go_wp2_with fail
          have hc := HQ0.out.cells
          refine bodyPost_ret (v := .tuple #[.int .i64 (a), .agg #[.int .i64 0, .int .i64 0, .string ⟨#[]⟩, .slice none 0 0], .bool true]) (results_rk rfl _ _ w.heap.size _ _ _ _ _ _ rfl rfl rfl hc.1 hc.2.1 hc.2.2.1 hc.2.2.2) rfl ?_
          exact ⟨rfl, HO0.out⟩
      · have HV : max a b = a := by omega
        rw [HE, HV, outF_in ⟨by omega, by omega⟩]
        clear HE hs HV
        have hba : b < a := by omega
        have hba2 : ¬ a < b := by omega
        go_enter Try.func77, Try.ntmps77
        go_wp2_with fail
        have hc := HQ0.out.cells
        refine bodyPost_ret (v := .tuple #[.int .i64 (a), .agg #[.int .i64 0, .int .i64 0, .string ⟨#[]⟩, .slice none 0 0], .bool true]) (results_rk rfl _ _ w.heap.size _ _ _ _ _ _ rfl rfl rfl hc.1 hc.2.1 hc.2.2.1 hc.2.2.2) rfl ?_
        exact ⟨rfl, HO0.out⟩
    | true =>
      by_cases hab : a ≤ b
      · have HV : max a b = b := by omega
        rw [HE, HV, outF_in ⟨by omega, by omega⟩]
        clear HE hs HV
        by_cases hlt : a < b
        · go_enter Try.func77, Try.ntmps77
          go_wp2_with fail
          have hc := HQ0.out.cells
          refine bodyPost_ret (v := .tuple #[.int .i64 (b), .agg #[.int .i64 0, .int .i64 0, .string ⟨#[]⟩, .slice none 0 0], .bool true]) (results_rk rfl _ _ w.heap.size _ _ _ _ _ _ rfl rfl rfl hc.1 hc.2.1 hc.2.2.1 hc.2.2.2) rfl ?_
          exact ⟨rfl, HO0.out⟩
        · obtain rfl : a = b := by omega
          go_enter Try.func77, Try.ntmps77
          go_wp2_with fail
          have hc := HQ0.out.cells
          refine bodyPost_ret (v := .tuple #[.int .i64 (a), .agg #[.int .i64 0, .int .i64 0, .string ⟨#[]⟩, .slice none 0 0], .bool true]) (results_rk rfl _ _ w.heap.size _ _ _ _ _ _ rfl rfl rfl hc.1 hc.2.1 hc.2.2.1 hc.2.2.2) rfl ?_
          exact ⟨rfl, HO0.out⟩
      · have HV : max a b = a := by omega
        rw [HE, HV, outF_in ⟨by omega, by omega⟩]
        clear HE hs HV
        have hba : b < a := by omega
        have hba2 : ¬ a < b := by omega
        go_enter Try.func77, Try.ntmps77
        go_wp2_with fail
        have hc := HQ0.out.cells
        refine bodyPost_ret (v := .tuple #[.int .i64 (a), .agg #[.int .i64 0, .int .i64 0, .string ⟨#[]⟩, .slice none 0 0], .bool true]) (results_rk rfl _ _ w.heap.size _ _ _ _ _ _ rfl rfl rfl hc.1 hc.2.1 hc.2.2.1 hc.2.2.2) rfl ?_
        exact ⟨rfl, HO0.out⟩
theorem rtwo_any (s : ByteArray) (a b : Int) (w : World) (hs : opB s 2 = true) (ha : Rng a) (hb : Rng b) : Calls Try.prog 77 #[.string s, .int .i64 a, .int .i64 b] w (AnsRk (finF s 2 a b) w) := by
  rcases op_two hs with rfl | rfl | rfl | rfl | rfl | rfl | rfl | rfl
  · exact rtwo_0 a b w trivial ha hb
  · exact rtwo_1 a b w trivial ha hb
  · exact rtwo_2 a b w trivial ha hb
  · exact rtwo_3 a b w trivial ha hb
  · exact rtwo_4 a b w trivial ha hb
  · exact rtwo_5 a b w trivial ha hb
  · exact rtwo_6 a b w trivial ha hb
  · exact rtwo_7 a b w trivial ha hb
end Go.Proofs.Ytleofkmfeooaaaa.terms
