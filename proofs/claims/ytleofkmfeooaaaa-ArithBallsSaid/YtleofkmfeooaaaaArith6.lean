/- Arithmetic: an operation's result, the program's. -/
import Derived.Test.YtleofkmfeooaaaaArith5
import Derived.Test.YtleofkmfeooaaaaArith3
namespace Go.Proofs.Ytleofkmfeooaaaa.terms
set_option maxRecDepth 100000
open Go.RowKit Go.Proofs.Ytleofkmfeooaaaa.own Go.Maps
theorem results_rk {fn : Func} {p u v : Tmp} (h : fn.results = #[.tmp u, .cell p 24, .tmp v]) (tmps : Array Value) (w : World) (b : Nat) (x0 x1 x2 x3 x4 x5 : Value) (ha : tmps.getD p undef = .pointer (some ⟨b, 0, none⟩)) (hu : tmps.getD u undef = x4) (hv : tmps.getD v undef = x5) (h0 : w.cell? ⟨b, 0, none⟩ = some x0) (h1 : w.cell? ⟨b, 1, none⟩ = some x1) (h2 : w.cell? ⟨b, 2, none⟩ = some x2) (h3 : w.cell? ⟨b, 3, none⟩ = some x3) :
    (results fn tmps).run Try.prog w = .ok (.tuple #[x4, .agg #[x0, x1, x2, x3], x5]) w := by
  have ha' : tmps[p]?.getD undef = .pointer (some ⟨b, 0, none⟩) := by simpa using ha
  have hu' : tmps[u]?.getD undef = x4 := by simpa using hu
  have hv' : tmps[v]?.getD undef = x5 := by simpa using hv
  simp only [results, h]
  go_simp
/-- What reckoning answers. -/
def AnsRk (r : Rk) (w : World) (e : Ending) (w' : World) : Prop :=
  match r with
  | .num n => e = .returned (.tuple #[.int .i64 n, .agg #[.int .i64 0, .int .i64 0, .string ⟨#[]⟩, .slice none 0 0], .bool true]) ∧ Only (fun _ => False) w w'
  | .ball x => ∃ a p, e = .returned (.tuple #[.int .i64 0, .agg #[.int .i64 4, .int .i64 0, .string nError, .slice a 1 p], .bool false]) ∧ Row (NewP no w w') w' a [x] ∧ Only (fun _ => False) w w'
theorem AnsRk.num {m : Int} {w w' : World} {e : Ending} (h : AnsRk (.num m) w e w') : e = .returned (.tuple #[.int .i64 m, .agg #[.int .i64 0, .int .i64 0, .string ⟨#[]⟩, .slice none 0 0], .bool true]) ∧ Only (fun _ => False) w w' := h
theorem AnsRk.ball {x : T} {w w' : World} {e : Ending} (h : AnsRk (.ball x) w e w') : ∃ a p, e = .returned (.tuple #[.int .i64 0, .agg #[.int .i64 4, .int .i64 0, .string nError, .slice a 1 p], .bool false]) ∧ Row (NewP no w w') w' a [x] ∧ Only (fun _ => False) w w' := h
/-- Two numbers, boxed, and a result's cell. -/
abbrev pairW (w : World) (a b : Int) : World := zeroW (w.alloc (.cells #[.int .i64 a, .int .i64 b] 85))
theorem pairW_box (w : World) (a b : Int) : (pairW w a b).heap[w.heap.size]? = some (.cells #[.int .i64 a, .int .i64 b] 85 (0, 0)) := blk_later (heap_alloc_new w _) (Only.alloc _ _ _)
theorem pairW_zero (w : World) (a b : Int) : Zero (w.heap.size + 1) (pairW w a b) := by
  have := Zero.new (w.alloc (.cells #[.int .i64 a, .int .i64 b] 85))
  rwa [show (w.alloc (.cells #[.int .i64 a, .int .i64 b] 85)).heap.size = w.heap.size + 1 by simp] at this
theorem pairW_only (w : World) (a b : Int) : Only (fun _ => False) w (pairW w a b) := (Only.alloc _ _ _).same (Only.alloc _ _ _)
theorem pairW_size (w : World) (a b : Int) : (pairW w a b).heap.size = w.heap.size + 2 := by simp
set_option maxHeartbeats 8000000 in
theorem operate_any (s : ByteArray) (k a b : Int) (w : World) (hs : opB s k = true) (ha : Rng a) (hb : Rng b) : Calls Try.prog 74 #[.string s, .int .i64 k, .agg #[.int .i64 a, .int .i64 b]] w (AnsRk (finF s k a b) w) := by
  have HQ0 := Lib.hid (pairW_zero w a b)
  have HO0 := Lib.hid (pairW_only w a b)
  have HZ0 := Lib.hid (pairW_size w a b)
  have g0 : (pairW w a b).cell? ⟨w.heap.size, 0, none⟩ = some (.int .i64 a) := by rw [cell_of_blk (pairW_box w a b)]; rfl
  have g1 : (pairW w a b).cell? ⟨w.heap.size, 1, none⟩ = some (.int .i64 b) := by rw [cell_of_blk (pairW_box w a b)]; rfl
  have HWR := Lib.hid (fun (u : ByteArray) (hu : u.size ≤ maxLen) W => wrong_any u W hu)
  obtain ⟨d0, d1, d2, d3⟩ := HQ0.out.cells
  obtain ⟨e0, e1, e2, e3⟩ := HQ0.out.free
  rcases op_len hs with rfl | rfl
  · have HON := Lib.hid (fun W => one_any s a W hs ha)
    have hr := oneF_rng (s := s) ha
    have HE : finF s 1 a b = .num (oneF s a) := by unfold finF; rw [if_pos rfl, outF_in hr]
    rw [HE]
    obtain ⟨r0, r1⟩ := hr
    clear HE hs ha hb
    generalize oneF s a = m at *
    go_enter Try.func74, Try.ntmps74
    go_wp2_with fail
    refine (HON.out _).mono ?_
    rintro e w1 ⟨rfl, rfl⟩
    go_wp2_with fail
    have hc := HQ0.out.cells
    refine bodyPost_ret (v := .tuple #[.int .i64 m, .agg #[.int .i64 0, .int .i64 0, .string ⟨#[]⟩, .slice none 0 0], .bool true]) (results_rk rfl _ _ (w.heap.size + 1) _ _ _ _ _ _ rfl rfl rfl hc.1 hc.2.1 hc.2.2.1 hc.2.2.2) rfl ?_
    exact ⟨rfl, HO0.out⟩
  · have HDI := Lib.hid (fun W => divides_any s W hs)
    have HTW := Lib.hid (fun W h => two_any s a b W hs ha hb h)
    by_cases hz : divF s = true ∧ b = 0
    · obtain ⟨hd, rfl⟩ := hz
      have HE : finF s 2 a 0 = .ball (evalF nZero) := by unfold finF; rw [if_neg (by omega), if_pos hd, if_pos rfl]
      rw [HE]
      rw [hd] at HDI
      clear HE hs ha hb hd HTW
      go_enter Try.func74, Try.ntmps74
      go_wp2_with fail
      refine (HDI.out _).mono ?_
      rintro e w1 ⟨rfl, rfl⟩
      go_wp2_with fail
      refine (HWR.out nZero (by decide +kernel) _).mono ?_
      rintro e w1 ⟨a1, p1, rfl, hl1, ho1⟩
      have HL1 := Lib.hid hl1
      have HSZ1 := Lib.hid ho1.size
      have HO1 := Lib.hid (HO0.out.same ho1)
      have HQ1 := Lib.hid (HQ0.out.only ho1 (fun e => e))
      have HS1 := Lib.hid (HQ1.out.set (.int .i64 4) (.int .i64 0) (.string nError) (.slice a1 1 p1))
      clear g0 g1 d0 d1 d2 d3 e0 e1 e2 e3 hl1 ho1
      obtain ⟨c0, c1, c2, c3⟩ := HQ1.out.cells
      obtain ⟨f0, f1, f2, f3⟩ := HQ1.out.free
      go_wp2_with fail
      have hc := HS1.out.1.cells
      refine bodyPost_ret (v := .tuple #[.int .i64 0, .agg #[.int .i64 4, .int .i64 0, .string nError, .slice a1 1 p1], .bool false]) (results_rk rfl _ _ (w.heap.size + 1) _ _ _ _ _ _ rfl rfl rfl hc.1 hc.2.1 hc.2.2.1 hc.2.2.2) rfl ?_
      exact ⟨a1, p1, rfl, HL1.out.fin HS1.out.2 (by omega) (by simp) HSZ1.out no_lt, Only.cut HO1.out HS1.out.2 (fun k e => by omega)⟩
    · have hz2 : divF s = true → b ≠ 0 := fun h e => hz ⟨h, e⟩
      have HE : finF s 2 a b = outF (twoF s a b) := by
        unfold finF
        rw [if_neg (by omega)]
        by_cases hd : divF s = true
        · rw [if_pos hd, if_neg (hz2 hd)]
        · rw [if_neg hd]
      rw [HE]
      have HT := Lib.hid (fun W => HTW.out W hz2)
      generalize hdd : divF s = dv at *
      have hb0 : dv = true → (b == 0) = false := fun h => by simpa using hz2 h
      clear HE hs ha hb HTW hz hz2 hdd
      generalize outF (twoF s a b) = R at *
      cases dv with
      | false =>
        clear hb0
        go_enter Try.func74, Try.ntmps74
        go_wp2_with fail
        refine (HDI.out _).mono ?_
        rintro e w1 ⟨rfl, rfl⟩
        go_wp2_with fail
        refine (HT.out _).mono ?_
        rintro e w1 ⟨n, rfl, hn, hf, rfl⟩
        by_cases hr : Rng n
        · rw [outF_in hr] at hn
          subst hn
          obtain ⟨r0, r1⟩ := hr
          clear hf
          go_wp2_with fail
          have hc := HQ0.out.cells
          refine bodyPost_ret (v := .tuple #[.int .i64 n, .agg #[.int .i64 0, .int .i64 0, .string ⟨#[]⟩, .slice none 0 0], .bool true]) (results_rk rfl _ _ (w.heap.size + 1) _ _ _ _ _ _ rfl rfl rfl hc.1 hc.2.1 hc.2.2.1 hc.2.2.2) rfl ?_
          exact ⟨rfl, HO0.out⟩
        · rw [outF_out hr] at hn
          subst hn
          by_cases hr0 : n < -9007199254740991
          · clear hf hr
            go_wp2_with fail
            refine (HWR.out nOver (by decide +kernel) _).mono ?_
            rintro e w1 ⟨a1, p1, rfl, hl1, ho1⟩
            have HL1 := Lib.hid hl1
            have HSZ1 := Lib.hid ho1.size
            have HO1 := Lib.hid (HO0.out.same ho1)
            have HQ1 := Lib.hid (HQ0.out.only ho1 (fun e => e))
            have HS1 := Lib.hid (HQ1.out.set (.int .i64 4) (.int .i64 0) (.string nError) (.slice a1 1 p1))
            clear g0 g1 d0 d1 d2 d3 e0 e1 e2 e3 hl1 ho1
            obtain ⟨c0, c1, c2, c3⟩ := HQ1.out.cells
            obtain ⟨f0, f1, f2, f3⟩ := HQ1.out.free
            go_wp2_with fail
            have hc := HS1.out.1.cells
            refine bodyPost_ret (v := .tuple #[.int .i64 0, .agg #[.int .i64 4, .int .i64 0, .string nError, .slice a1 1 p1], .bool false]) (results_rk rfl _ _ (w.heap.size + 1) _ _ _ _ _ _ rfl rfl rfl hc.1 hc.2.1 hc.2.2.1 hc.2.2.2) rfl ?_
            exact ⟨a1, p1, rfl, HL1.out.fin HS1.out.2 (by omega) (by simp) HSZ1.out no_lt, Only.cut HO1.out HS1.out.2 (fun k e => by omega)⟩
          · have hr1 : 9007199254740991 < n := by unfold Rng at hr; omega
            clear hf hr
            go_wp2_with fail
            refine (HWR.out nOver (by decide +kernel) _).mono ?_
            rintro e w1 ⟨a1, p1, rfl, hl1, ho1⟩
            have HL1 := Lib.hid hl1
            have HSZ1 := Lib.hid ho1.size
            have HO1 := Lib.hid (HO0.out.same ho1)
            have HQ1 := Lib.hid (HQ0.out.only ho1 (fun e => e))
            have HS1 := Lib.hid (HQ1.out.set (.int .i64 4) (.int .i64 0) (.string nError) (.slice a1 1 p1))
            clear g0 g1 d0 d1 d2 d3 e0 e1 e2 e3 hl1 ho1
            obtain ⟨c0, c1, c2, c3⟩ := HQ1.out.cells
            obtain ⟨f0, f1, f2, f3⟩ := HQ1.out.free
            go_wp2_with fail
            have hc := HS1.out.1.cells
            refine bodyPost_ret (v := .tuple #[.int .i64 0, .agg #[.int .i64 4, .int .i64 0, .string nError, .slice a1 1 p1], .bool false]) (results_rk rfl _ _ (w.heap.size + 1) _ _ _ _ _ _ rfl rfl rfl hc.1 hc.2.1 hc.2.2.1 hc.2.2.2) rfl ?_
            exact ⟨a1, p1, rfl, HL1.out.fin HS1.out.2 (by omega) (by simp) HSZ1.out no_lt, Only.cut HO1.out HS1.out.2 (fun k e => by omega)⟩
      | true =>
        have hbz := hb0 rfl
        clear hb0
        go_enter Try.func74, Try.ntmps74
        go_wp2_with fail
        refine (HDI.out _).mono ?_
        rintro e w1 ⟨rfl, rfl⟩
        go_wp2_with fail
        refine (HT.out _).mono ?_
        rintro e w1 ⟨n, rfl, hn, hf, rfl⟩
        by_cases hr : Rng n
        · rw [outF_in hr] at hn
          subst hn
          obtain ⟨r0, r1⟩ := hr
          clear hf
          go_wp2_with fail
          have hc := HQ0.out.cells
          refine bodyPost_ret (v := .tuple #[.int .i64 n, .agg #[.int .i64 0, .int .i64 0, .string ⟨#[]⟩, .slice none 0 0], .bool true]) (results_rk rfl _ _ (w.heap.size + 1) _ _ _ _ _ _ rfl rfl rfl hc.1 hc.2.1 hc.2.2.1 hc.2.2.2) rfl ?_
          exact ⟨rfl, HO0.out⟩
        · rw [outF_out hr] at hn
          subst hn
          by_cases hr0 : n < -9007199254740991
          · clear hf hr
            go_wp2_with fail
            refine (HWR.out nOver (by decide +kernel) _).mono ?_
            rintro e w1 ⟨a1, p1, rfl, hl1, ho1⟩
            have HL1 := Lib.hid hl1
            have HSZ1 := Lib.hid ho1.size
            have HO1 := Lib.hid (HO0.out.same ho1)
            have HQ1 := Lib.hid (HQ0.out.only ho1 (fun e => e))
            have HS1 := Lib.hid (HQ1.out.set (.int .i64 4) (.int .i64 0) (.string nError) (.slice a1 1 p1))
            clear g0 g1 d0 d1 d2 d3 e0 e1 e2 e3 hl1 ho1
            obtain ⟨c0, c1, c2, c3⟩ := HQ1.out.cells
            obtain ⟨f0, f1, f2, f3⟩ := HQ1.out.free
            go_wp2_with fail
            have hc := HS1.out.1.cells
            refine bodyPost_ret (v := .tuple #[.int .i64 0, .agg #[.int .i64 4, .int .i64 0, .string nError, .slice a1 1 p1], .bool false]) (results_rk rfl _ _ (w.heap.size + 1) _ _ _ _ _ _ rfl rfl rfl hc.1 hc.2.1 hc.2.2.1 hc.2.2.2) rfl ?_
            exact ⟨a1, p1, rfl, HL1.out.fin HS1.out.2 (by omega) (by simp) HSZ1.out no_lt, Only.cut HO1.out HS1.out.2 (fun k e => by omega)⟩
          · have hr1 : 9007199254740991 < n := by unfold Rng at hr; omega
            clear hf hr
            go_wp2_with fail
            refine (HWR.out nOver (by decide +kernel) _).mono ?_
            rintro e w1 ⟨a1, p1, rfl, hl1, ho1⟩
            have HL1 := Lib.hid hl1
            have HSZ1 := Lib.hid ho1.size
            have HO1 := Lib.hid (HO0.out.same ho1)
            have HQ1 := Lib.hid (HQ0.out.only ho1 (fun e => e))
            have HS1 := Lib.hid (HQ1.out.set (.int .i64 4) (.int .i64 0) (.string nError) (.slice a1 1 p1))
            clear g0 g1 d0 d1 d2 d3 e0 e1 e2 e3 hl1 ho1
            obtain ⟨c0, c1, c2, c3⟩ := HQ1.out.cells
            obtain ⟨f0, f1, f2, f3⟩ := HQ1.out.free
            go_wp2_with fail
            have hc := HS1.out.1.cells
            refine bodyPost_ret (v := .tuple #[.int .i64 0, .agg #[.int .i64 4, .int .i64 0, .string nError, .slice a1 1 p1], .bool false]) (results_rk rfl _ _ (w.heap.size + 1) _ _ _ _ _ _ rfl rfl rfl hc.1 hc.2.1 hc.2.2.1 hc.2.2.2) rfl ?_
            exact ⟨a1, p1, rfl, HL1.out.fin HS1.out.2 (by omega) (by simp) HSZ1.out no_lt, Only.cut HO1.out HS1.out.2 (fun k e => by omega)⟩
end Go.Proofs.Ytleofkmfeooaaaa.terms
