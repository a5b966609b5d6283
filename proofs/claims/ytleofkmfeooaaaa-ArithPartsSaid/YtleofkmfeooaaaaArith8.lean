/- Arithmetic: reckoning, the program's. -/
import Derived.Test.YtleofkmfeooaaaaArith7
import Derived.RegionTactic
namespace Go.Proofs.Ytleofkmfeooaaaa.terms
set_option maxRecDepth 100000
open Go.RowKit Go.Proofs.Ytleofkmfeooaaaa.own Go.Maps
theorem isOpA (s : ByteArray) (n : Int) (w : World) : Calls Try.prog 73 #[.string s, .int .i64 n] w fun e w' => e = .returned (.bool (opB s n)) ∧ w' = w := isOp_any s n w
/-- The loop over the arguments under way: the first j came to v. -/
structure RckI (w : World) (k n : Int) (s : ByteArray) (ao : Option Addr) (cap : Nat) (l : List T) (v : List Int) (j : Nat) (wr : World) : Prop where
  o : Only (fun _ => False) w wr
  q : Quad w.heap.size (.int .i64 k) (.int .i64 n) (.string s) (.slice ao l.length cap) wr
  z : Zero (w.heap.size + 1) wr
  g : wr.heap[w.heap.size + 2]? = some (.cells #[.int .i64 (v.getD 0 0), .int .i64 (v.getD 1 0)] 85 (0, 0))
  r : reckL (l.take j) = .inl v
  n : v.length = j
  m : Rng (v.getD 0 0) ∧ Rng (v.getD 1 0)
theorem RckI.later {w : World} {k n : Int} {s : ByteArray} {ao : Option Addr} {cap : Nat} {l : List T} {v : List Int} {j : Nat} {wr wr' : World} (h : RckI w k n s ao cap l v j wr) (ho : Only (fun _ => False) wr wr') : RckI w k n s ao cap l v j wr' := ⟨h.o.same ho, h.q.only ho (fun e => e), h.z.only ho (fun e => e), blk_later h.g ho, h.r, h.n, h.m⟩
theorem RckI.step {w : World} {k n : Int} {s : ByteArray} {ao : Option Addr} {cap : Nat} {l : List T} {v : List Int} {j : Nat} {wr : World} (h : RckI w k n s ao cap l v j wr) (hj : j < 2) {x : T} (hx : l[j]? = some x) {m : Int} (hm : reckF x = .num m) (hmr : Rng m) : RckI w k n s ao cap l (v ++ [m]) (j + 1) (wr.setCell ⟨w.heap.size + 2, j, none⟩ (.int .i64 m)) := by
  have ho : Only (· = w.heap.size + 2) wr (wr.setCell ⟨w.heap.size + 2, j, none⟩ (.int .i64 m)) := Only.setCell (S := (· = w.heap.size + 2)) wr (p := ⟨w.heap.size + 2, j, none⟩) rfl _
  have hb := blk_set h.g j (.int .i64 m)
  have hn := h.n
  refine ⟨Only.cut h.o ho (fun k e => by omega), h.q.only ho (by omega), h.z.only ho (by omega), ?_, reckL_step hx h.r hm, by simp [hn], ?_⟩
  match j, hj with
  | 0, _ =>
    obtain rfl : v = [] := List.length_eq_zero_iff.1 hn
    simpa using hb
  | 1, _ =>
    obtain ⟨a, rfl⟩ := List.length_eq_one_iff.1 hn
    simpa using hb
  have hm0 := h.m
  match j, hj with
  | 0, _ =>
    obtain rfl : v = [] := List.length_eq_zero_iff.1 hn
    exact ⟨hmr, by simpa using hm0.1⟩
  | 1, _ =>
    obtain ⟨a, rfl⟩ := List.length_eq_one_iff.1 hn
    exact ⟨by simpa using hm0.1, by simpa using hmr⟩
theorem RckI.cell {w : World} {k n : Int} {s : ByteArray} {ao : Option Addr} {cap : Nat} {l : List T} {v : List Int} {j : Nat} {wr : World} (h : RckI w k n s ao cap l v j wr) (hj : j < 2) : (∃ z, wr.cell? ⟨w.heap.size + 2, j, none⟩ = some z) ∧ wr.frozen? ⟨w.heap.size + 2, j, none⟩ = false := by
  refine ⟨?_, free_of_blk h.g j⟩
  rw [cell_of_blk h.g j]
  match j, hj with
  | 0, _ => exact ⟨_, rfl⟩
  | 1, _ => exact ⟨_, rfl⟩
set_option maxHeartbeats 8000000 in
theorem reckon_any (t : T) : ∀ (w : World) (ao : Option Addr) (cap : Nat), Lies w ao t.l → t.Sane → t.Ok → Calls Try.prog 47 #[tv t ao cap] w (AnsRk (reckF t) w) := by
  induction t using T.ind with
  | h k n s l ih =>
    intro w ao cap hl hs hok
    have HB0 := Lib.hid (twoW_box w (.mk k n s l) ao cap)
    have HQ0 := Lib.hid (twoW_zero w (.mk k n s l) ao cap)
    have HO0 := Lib.hid (twoW_only w (.mk k n s l) ao cap)
    have HZ0 := Lib.hid (twoW_size w (.mk k n s l) ao cap)
    have HL := Lib.hid hl
    have HS := Lib.hid hs
    have HOK := Lib.hid hok
    have HI := Lib.hid ih
    have hlen := hs.l
    have hsz := hs.s
    unfold maxLen at hlen
    simp only [T.l] at hlen hl
    have hkk := right_kind hok.right
    have hin : k = 2 → Rng n := fun h => by subst h; exact int_rng hok.right
    simp only [T.k] at hkk
    simp only [T.k, T.n, T.s, T.l] at HB0 HQ0 HO0 HZ0 hsz
    show Calls Try.prog 47 #[.agg #[.int .i64 k, .int .i64 n, .string s, .slice ao l.length cap]] w _
    clear hl hs hok ih
    obtain ⟨c0, c1, c2, c3⟩ := HB0.out.cells
    obtain ⟨d0, d1, d2, d3⟩ := HQ0.out.cells
    obtain ⟨f0, f1, f2, f3⟩ := HQ0.out.free
    by_cases hk2 : k = 2
    · subst hk2
      have HE : reckF (.mk 2 n s l) = .num n := by rw [reckF_mk, if_pos rfl]
      rw [HE]
      clear HE
      go_enter Try.func47, Try.ntmps47
      go_wp2_with fail
      have hc := HQ0.out.cells
      refine bodyPost_ret (v := .tuple #[.int .i64 n, .agg #[.int .i64 0, .int .i64 0, .string ⟨#[]⟩, .slice none 0 0], .bool true]) (results_rk rfl _ _ (w.heap.size + 1) _ _ _ _ _ _ rfl rfl rfl hc.1 hc.2.1 hc.2.2.1 hc.2.2.2) rfl ?_
      exact ⟨rfl, HO0.out⟩
    · have e2 : (k == 2) = false := by simpa using hk2
      by_cases hk1 : k = 1
      · subst hk1
        have HE : reckF (.mk 1 n s l) = .ball (sAtom nInst) := by rw [reckF_mk, if_neg (by omega), if_pos rfl]
        rw [HE]
        clear HE
        go_enter Try.func47, Try.ntmps47
        go_wp2_with fail
        refine (Error_none _).mono ?_
        rintro e w1 ⟨a1, p1, rfl, hl1, ho1⟩
        have HL1 := Lib.hid hl1
        have HSZ1 := Lib.hid ho1.size
        have HO1 := Lib.hid (HO0.out.same ho1)
        have HQ1 := Lib.hid (HQ0.out.only ho1 (fun e => e))
        have HS1 := Lib.hid (HQ1.out.set (.int .i64 4) (.int .i64 0) (.string nError) (.slice a1 1 p1))
        clear c0 c1 c2 c3 d0 d1 d2 d3 f0 f1 f2 f3 hl1 ho1
        obtain ⟨c0, c1, c2, c3⟩ := HQ1.out.cells
        obtain ⟨f0, f1, f2, f3⟩ := HQ1.out.free
        go_wp2_with fail
        have hc := HS1.out.1.cells
        refine bodyPost_ret (v := .tuple #[.int .i64 0, .agg #[.int .i64 4, .int .i64 0, .string nError, .slice a1 1 p1], .bool false]) (results_rk rfl _ _ (w.heap.size + 1) _ _ _ _ _ _ rfl rfl rfl hc.1 hc.2.1 hc.2.2.1 hc.2.2.2) rfl ?_
        exact ⟨a1, p1, rfl, HL1.out.fin HS1.out.2 (by omega) (by simp) HSZ1.out no_lt, Only.cut HO1.out HS1.out.2 (fun k e => by omega)⟩
      · have e1 : (k == 1) = false := by simpa using hk1
        by_cases hop : opB s (l.length : Int) = false
        · have HE : reckF (.mk k n s l) = .ball (evF (.mk k n s l)) := by rw [reckF_mk, if_neg hk2, if_neg hk1, if_pos hop]
          rw [HE]
          have HIS := Lib.hid (fun W => isOpA s (l.length : Int) W)
          rw [hop] at HIS
          have HIN : Hid (∀ W, Only (fun _ => False) w W → Calls Try.prog 28 #[.agg #[.int .i64 k, .int .i64 n, .string s, .slice ao l.length cap]] W (AnsSlash (.mk k n s l) W)) := Lib.hid (fun W ho => by
            have hz := HOK.out.size
            rcases hkk with h | h | h | h
            · exact absurd h hk1
            · exact absurd h hk2
            · exact Ind_ok3 (.mk k n s l) ao cap W h HS.out (HL.out.later ho) (by omega) HOK.out
            · exact Ind_ok4 (.mk k n s l) ao cap W h HS.out (HL.out.later ho) (by omega) HOK.out)
          have HTY : Hid (∀ (W : World) (a : Option Addr) (p : Nat), Lies W a (slashF (.mk k n s l)) → Calls Try.prog 26 #[.string nEvaluable, .agg #[.int .i64 4, .int .i64 0, .string ⟨#[47]⟩, .slice a 2 p]] W (AnsBall no (evF (.mk k n s l)) W)) := Lib.hid (fun W a p h =>
            Type_any nEvaluable (.mk 4 0 ⟨#[47]⟩ (slashF (.mk k n s l))) a p W (by decide +kernel) (sane_comp (by decide +kernel) (by show 2 ≤ maxLen; exact small_lit (by omega))) h (by simp [T.size, slashF, sizes, size_atom, size_int]))
          clear HE hop hkk hin
          go_enter Try.func47, Try.ntmps47
          go_wp2_with fail
          refine (HIS.out _).mono ?_
          rintro e w1 ⟨rfl, rfl⟩
          go_wp2_with fail
          refine (HIN.out _ HO0.out).mono ?_
          rintro e w1 ⟨a1, p1, rfl, hl1, ho1⟩
          have HL1 := Lib.hid hl1
          have HO1 := Lib.hid (HO0.out.same ho1)
          have HSZ1 := Lib.hid ho1.size
          have HQ1 := Lib.hid (HQ0.out.only ho1 (fun e => e))
          clear c0 c1 c2 c3 d0 d1 d2 d3 f0 f1 f2 f3 hl1 ho1
          go_wp2_with fail
          refine (HTY.out _ a1 p1 (HL1.out.mono (fun k hk => by rcases hk with hk | hk; exact hk.elim; exact hk.2))).mono ?_
          rintro e w2 ⟨a2, p2, rfl, hl2, ho2⟩
          have HL2 := Lib.hid hl2
          have HSZ2 := Lib.hid ho2.size
          have HO2 := Lib.hid (HO1.out.same ho2)
          have HQ2 := Lib.hid (HQ1.out.only ho2 (fun e => e))
          have HS2 := Lib.hid (HQ2.out.set (.int .i64 4) (.int .i64 0) (.string nError) (.slice a2 1 p2))
          clear hl2 ho2
          obtain ⟨c0, c1, c2, c3⟩ := HQ2.out.cells
          obtain ⟨f0, f1, f2, f3⟩ := HQ2.out.free
          go_wp2_with fail
          have hc := HS2.out.1.cells
          refine bodyPost_ret (v := .tuple #[.int .i64 0, .agg #[.int .i64 4, .int .i64 0, .string nError, .slice a2 1 p2], .bool false]) (results_rk rfl _ _ (w.heap.size + 1) _ _ _ _ _ _ rfl rfl rfl hc.1 hc.2.1 hc.2.2.1 hc.2.2.2) rfl ?_
          exact ⟨a2, p2, rfl, HL2.out.fin HS2.out.2 (by omega) (by have := HSZ1.out; have := HZ0.out; omega) HSZ2.out no_lt, Only.cut HO2.out HS2.out.2 (fun k e => by omega)⟩
        · have hop2 : opB s (l.length : Int) = true := by simpa using hop
          have HIS := Lib.hid (fun W => isOpA s (l.length : Int) W)
          rw [hop2] at HIS
          have hl12 := op_len hop2
          have HOP := Lib.hid hop2
          have HE : Hid (reckF (.mk k n s l) = endF s (l.length : Int) (reckL l)) := Lib.hid (by rw [reckF_mk, if_neg hk2, if_neg hk1, if_neg hop])
          have HRN : Hid (∀ x ∈ l, ∀ m, reckF x = .num m → Rng m) := Lib.hid (fun x hx m hm => reckF_rng (Ok_item HOK.out hx).right hm)
          have HIX : Hid (∀ x ∈ l, ∀ (W : World) (xo : Option Addr) (xc : Nat), Lies W xo x.l → x.Sane → Calls Try.prog 47 #[tv x xo xc] W (AnsRk (reckF x) W)) := Lib.hid (fun x hx W xo xc h1 h2 => HI.out x hx W xo xc h1 h2 (Ok_item HOK.out hx))
          generalize reckF (.mk k n s l) = R at *
          clear hop hop2 hkk hin HI
          go_enter Try.func47, Try.ntmps47
          go_wp2_with fail
          refine (HIS.out _).mono ?_
          rintro e w1 ⟨rfl, rfl⟩
          have HI0 : Hid (RckI w k n s ao cap l [] 0 ((twoW w (.mk k n s l) ao cap).alloc (.cells #[.int .i64 0, .int .i64 0] 85))) := Lib.hid (by
            have ho : Only (fun _ => False) (twoW w (.mk k n s l) ao cap) ((twoW w (.mk k n s l) ao cap).alloc (.cells #[.int .i64 0, .int .i64 0] 85)) := Only.alloc _ _ _
            have hb := heap_alloc_new (twoW w (.mk k n s l) ao cap) (.cells #[.int .i64 0, .int .i64 0] 85)
            rw [HZ0.out] at hb
            exact ⟨HO0.out.same ho, HB0.out.only ho (fun e => e), HQ0.out.only ho (fun e => e), hb, rfl, rfl, ⟨by decide, by decide⟩, ⟨by decide, by decide⟩⟩)
          clear c0 c1 c2 c3 d0 d1 d2 d3 f0 f1 f2 f3
          obtain ⟨c0, c1, c2, c3⟩ := HI0.out.q.cells
          go_wp2_with fail
          go_loopw [37] (fun i wr => ∃ (j : Nat) (v : List Int), i = .int .i64 j ∧ j ≤ l.length ∧ Hid (RckI w k n s ao cap l v j wr)) (fun i _ => l.length - (intOf i).toNat)
          case atStart => exact ⟨0, [], rfl, by omega, HI0⟩
          case round =>
            obtain ⟨j, v, rfl, hj, hR⟩ := hrel
            clear HI0 c0 c1 c2 c3
            by_cases hlt : j < l.length
            · obtain ⟨x, hx⟩ : ∃ x, l[j]? = some x := ⟨_, List.getElem?_eq_getElem hlt⟩
              obtain ⟨b, off, ro, rc, rfl, hb, c0, c1, c2, c3, hsane, hsub⟩ := (HL.out.later hR.out.o).at hx
              have hj2 : (j : Int) < 2 := by omega
              have HJ2 : Hid (j < 2) := Lib.hid (by omega)
              have HX := Lib.hid hx
              have HREC := Lib.hid (fun W (ho : Only (fun _ => False) wr W) => HIX.out x (List.mem_of_getElem? hx) W ro rc (hsub.later ho) hsane)
              have HRX := Lib.hid (HRN.out x (List.mem_of_getElem? hx))
              clear hx hsane hsub
              go_wp2_with fail
              have ho : Only (fun _ => False) wr (wr.alloc (.cells #[.int .i64 x.k, .int .i64 x.n, .string x.s, .slice ro x.l.length rc] 24)) := Only.alloc _ _ _
              cases hr : reckF x with
              | num m =>
                have H := HREC.out _ ho
                rw [hr] at H
                refine H.mono ?_
                clear H
                intro e w2 h2
                obtain ⟨rfl, ho2⟩ := h2.num
                have ho3 : Only (fun _ => False) wr (w2.alloc (.cells #[.int .i64 0, .int .i64 0, .string ⟨#[]⟩, .slice none 0 0] 24)) := (ho.same ho2).same (Only.alloc _ _ _)
                have HR3 := Lib.hid (hR.out.later ho3)
                obtain ⟨⟨z, g0⟩, g1⟩ := HR3.out.cell HJ2.out
                have HR4 := Lib.hid (HR3.out.step HJ2.out HX.out hr (HRX.out m hr))
                clear ho ho2 ho3 h2 hr c0 c1 c2 c3
                go_wp2_with fail
                go_roundw
                case rel => exact ⟨j + 1, v ++ [m], by go_num, by omega, HR4⟩
                case measure => simp [intOf]; omega
              | ball y =>
                have H := HREC.out _ ho
                rw [hr] at H
                refine H.mono ?_
                clear H
                intro e w2 h2
                obtain ⟨a2, p2, rfl, hl2, ho2⟩ := h2.ball
                obtain rfl : R = .ball y := by rw [HE.out, reckL_hit HX.out hR.out.r hr]; rfl
                have ho3 : Only (fun _ => False) wr (w2.alloc (.cells #[.int .i64 4, .int .i64 0, .string nError, .slice a2 1 p2] 24)) := (ho.same ho2).same (Only.alloc _ _ _)
                have HR3 := Lib.hid (hR.out.later ho3)
                have hx1 := lt_of_block hR.out.g
                have hx2 : (wr.alloc (.cells #[.int .i64 x.k, .int .i64 x.n, .string x.s, .slice ro x.l.length rc] 24)).heap.size = wr.heap.size + 1 := by simp
                have HL3 : Hid (Row (fun q => w.heap.size + 3 ≤ q ∧ q < w2.heap.size) (w2.alloc (.cells #[.int .i64 4, .int .i64 0, .string nError, .slice a2 1 p2] 24)) a2 [y]) := Lib.hid ((hl2.only (Only.alloc (fun _ => False) w2 (.cells #[.int .i64 4, .int .i64 0, .string nError, .slice a2 1 p2] 24)) (fun k hk => by rcases hk with hk | hk; exact hk.elim; exact hk.2) (fun _ _ e => e)).mono (fun q hq => by
                  rcases hq with hq | hq
                  · exact hq.elim
                  · exact ⟨by omega, hq.2⟩))
                clear hx1 hx2
                have HSZ3 : Hid (w.heap.size + 3 ≤ w2.heap.size ∧ w.heap.size + 3 ≤ wr.heap.size) := Lib.hid (by
                  have h1 := lt_of_block hR.out.g
                  have h2 := (ho.same ho2).size
                  omega)
                have HZR : Hid (wr.heap.size + 1 ≤ w2.heap.size) := Lib.hid (by have := ho2.size; simp at this; omega)
                clear ho ho2 ho3 h2 hl2 hr c0 c1 c2 c3
                obtain ⟨c0, c1, c2, c3⟩ := HR3.out.z.cells
                obtain ⟨f0, f1, f2, f3⟩ := HR3.out.z.free
                have HS3 := Lib.hid (HR3.out.z.set (.int .i64 4) (.int .i64 0) (.string nError) (.slice a2 1 p2))
                have g0 : Quad w2.heap.size (.int .i64 4) (.int .i64 0) (.string nError) (.slice a2 1 p2) (w2.alloc (.cells #[.int .i64 4, .int .i64 0, .string nError, .slice a2 1 p2] 24)) := heap_alloc_new _ _
                obtain ⟨g0, g1, g2, g3⟩ := g0.cells
                generalize hw3 : w2.alloc (.cells #[.int .i64 4, .int .i64 0, .string nError, .slice a2 1 p2] 24) = w3 at *
                have HZ3 : Hid (w2.heap.size ≤ w3.heap.size) := Lib.hid (by rw [← hw3]; simp)
                go_wp2_with fail
                clear hw3
                generalize w2.heap.size = bb at *
                go_region
                go_wp2_with fail
                have hc := HS3.out.1.cells
                refine bodyPost_ret (v := .tuple #[.int .i64 0, .agg #[.int .i64 4, .int .i64 0, .string nError, .slice a2 1 p2], .bool false]) (results_rk rfl _ ((quadW w3 (w.heap.size + 1) (.int .i64 4) (.int .i64 0) (.string nError) (.slice a2 1 p2)).drew) (w.heap.size + 1) _ _ _ _ _ _ rfl rfl rfl hc.1 hc.2.1 hc.2.2.1 hc.2.2.2) rfl ?_
                have o4 : Only (· = w.heap.size + 1) w3 ((quadW w3 (w.heap.size + 1) (.int .i64 4) (.int .i64 0) (.string nError) (.slice a2 1 p2)).drew) := HS3.out.2.same (Only.drew _ _)
                have hz1 := HSZ3.out
                have hz2 := HZR.out
                have hz3 := HZ3.out
                have hw1 : (wr.alloc (.cells #[.int .i64 x.k, .int .i64 x.n, .string x.s, .slice ro x.l.length rc] 24)).heap.size = wr.heap.size + 1 := by simp
                have hs4 := o4.size
                refine ⟨a2, p2, rfl, ?_, Only.cut HR3.out.o o4 (fun k e => by omega)⟩
                exact (HL3.out.past (w.heap.size + 1) o4 (fun k hk => by have := hk.2; omega) (fun k hk => by have := hk.1; omega)).mono (fun k hk => .inr ⟨by have := hk.1; omega, Nat.lt_of_lt_of_le (by have := hk.2; omega) o4.size⟩)
            · obtain rfl : j = l.length := by omega
              have HRV : Hid (R = finF s (l.length : Int) (v.getD 0 0) (v.getD 1 0)) := Lib.hid (by rw [HE.out, show reckL l = .inl v from (by have := hR.out.r; rwa [List.take_length] at this)]; rfl)
              have HOPR := Lib.hid (fun W => operate_any s (l.length : Int) (v.getD 0 0) (v.getD 1 0) W HOP.out hR.out.m.1 hR.out.m.2)
              rw [← HRV.out] at HOPR
              obtain ⟨c0, c1, c2, c3⟩ := hR.out.q.cells
              have g0 : wr.cell? ⟨w.heap.size + 2, 0, none⟩ = some (.int .i64 (v.getD 0 0)) := by rw [cell_of_blk hR.out.g]; rfl
              have g1 : wr.cell? ⟨w.heap.size + 2, 1, none⟩ = some (.int .i64 (v.getD 1 0)) := by rw [cell_of_blk hR.out.g]; rfl
              generalize v.getD 0 0 = A0 at *
              generalize v.getD 1 0 = A1 at *
              clear HRV
              go_wp2_with fail
              cases R with
              | num m =>
                refine (HOPR.out wr).mono ?_
                intro e w2 h2
                obtain ⟨rfl, ho2⟩ := h2.num
                have HR2 := Lib.hid (hR.out.later ho2)
                clear h2 ho2 c0 c1 c2 c3 g0 g1
                obtain ⟨c0, c1, c2, c3⟩ := HR2.out.z.cells
                obtain ⟨f0, f1, f2, f3⟩ := HR2.out.z.free
                have HS2 := Lib.hid (HR2.out.z.set (.int .i64 0) (.int .i64 0) (.string ⟨#[]⟩) (.slice none 0 0))
                go_wp2_with fail
                have hc := HS2.out.1.cells
                refine bodyPost_ret (v := .tuple #[.int .i64 m, .agg #[.int .i64 0, .int .i64 0, .string ⟨#[]⟩, .slice none 0 0], .bool true]) (results_rk rfl _ _ (w.heap.size + 1) _ _ _ _ _ _ rfl rfl rfl hc.1 hc.2.1 hc.2.2.1 hc.2.2.2) rfl ?_
                exact ⟨rfl, Only.cut HR2.out.o HS2.out.2 (fun k e => by omega)⟩
              | ball y =>
                refine (HOPR.out wr).mono ?_
                intro e w2 h2
                obtain ⟨a2, p2, rfl, hl2, ho2⟩ := h2.ball
                have HL2 := Lib.hid hl2
                have HSZ2 := Lib.hid ho2.size
                have HSZ3 : Hid (w.heap.size + 3 ≤ wr.heap.size) := Lib.hid (lt_of_block hR.out.g)
                have HR2 := Lib.hid (hR.out.later ho2)
                clear h2 hl2 ho2 c0 c1 c2 c3 g0 g1
                obtain ⟨c0, c1, c2, c3⟩ := HR2.out.z.cells
                obtain ⟨f0, f1, f2, f3⟩ := HR2.out.z.free
                have HS2 := Lib.hid (HR2.out.z.set (.int .i64 4) (.int .i64 0) (.string nError) (.slice a2 1 p2))
                go_wp2_with fail
                have hc := HS2.out.1.cells
                refine bodyPost_ret (v := .tuple #[.int .i64 0, .agg #[.int .i64 4, .int .i64 0, .string nError, .slice a2 1 p2], .bool false]) (results_rk rfl _ _ (w.heap.size + 1) _ _ _ _ _ _ rfl rfl rfl hc.1 hc.2.1 hc.2.2.1 hc.2.2.2) rfl ?_
                exact ⟨a2, p2, rfl, HL2.out.fin HS2.out.2 (by omega) (by have := HSZ3.out; omega) HSZ2.out no_lt, Only.cut HR2.out.o HS2.out.2 (fun k e => by omega)⟩
end Go.Proofs.Ytleofkmfeooaaaa.terms
