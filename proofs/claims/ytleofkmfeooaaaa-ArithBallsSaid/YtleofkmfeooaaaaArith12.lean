/- Arithmetic: reckoning, the reference's. -/
import Derived.Test.YtleofkmfeooaaaaArith11
import Derived.Test.YtleofkmfeooaaaaArith8
namespace Go.Proofs.Ytleofkmfeooaaaa.terms
set_option maxRecDepth 100000
open Go.RowKit Go.Proofs.Ytleofkmfeooaaaa.own Go.Maps
theorem knownA (s : ByteArray) (n : Int) (w : World) : Calls Try.prog 75 #[.string s, .int .i64 n] w fun e w' => e = .returned (.bool (opB s n)) ∧ w' = w := known_any s n w
/-- A term's item at a place, its cells. -/
theorem Lies.at0 {w : World} {ao : Option Addr} {x : T} {l : List T} (h : Lies w ao (x :: l)) : ∃ b off ro rc, ao = some ⟨b, off, none⟩ ∧ b < w.heap.size ∧ w.cell? ⟨b, off, none⟩ = some (.int .i64 x.k) ∧ w.cell? ⟨b, off + 1, none⟩ = some (.int .i64 x.n) ∧ w.cell? ⟨b, off + 2, none⟩ = some (.string x.s) ∧ w.cell? ⟨b, off + 3, none⟩ = some (.slice ro x.l.length rc) ∧ x.Sane ∧ Lies w ro x.l := by
  obtain ⟨b, off, ro, rc, h1, h2, h3, h4, h5, h6, h7⟩ := Row.at h (i := 0) rfl
  simp only [Nat.zero_mul, Nat.add_zero] at h3 h4 h5 h6
  exact ⟨b, off, ro, rc, h1, h2, h3, h4, h5, h6, h7⟩
theorem Lies.at1 {w : World} {b off : Nat} {x y : T} {l : List T} (h : Lies w (some ⟨b, off, none⟩) (x :: y :: l)) : ∃ ro rc, w.cell? ⟨b, off + 4, none⟩ = some (.int .i64 y.k) ∧ w.cell? ⟨b, off + 4 + 1, none⟩ = some (.int .i64 y.n) ∧ w.cell? ⟨b, off + 4 + 2, none⟩ = some (.string y.s) ∧ w.cell? ⟨b, off + 4 + 3, none⟩ = some (.slice ro y.l.length rc) ∧ y.Sane ∧ Lies w ro y.l := by
  obtain ⟨b', off', ro, rc, h1, h2, h3, h4, h5, h6, h7⟩ := Row.at h (i := 1) rfl
  cases h1
  simp only [Nat.one_mul] at h3 h4 h5 h6
  exact ⟨ro, rc, h3, h4, h5, h6, h7⟩
theorem two_of {l : List T} (h : l.length = 2) : ∃ x y, l = [x, y] := by
  match l, h with
  | [x, y], _ => exact ⟨x, y, rfl⟩
theorem reckF_one {k n : Int} {s : ByteArray} {x : T} (h2 : k ≠ 2) (h1 : k ≠ 1) (ho : opB s 1 = true) : reckF (.mk k n s [x]) = match reckF x with | .ball y => .ball y | .num a => finF s 1 a 0 := by
  rw [reckF_mk, if_neg h2, if_neg h1, if_neg (by show ¬ opB s 1 = false; rw [ho]; exact Bool.noConfusion)]
  simp only [reckL]
  cases reckF x <;> rfl
theorem reckF_two {k n : Int} {s : ByteArray} {x y : T} (h2 : k ≠ 2) (h1 : k ≠ 1) (ho : opB s 2 = true) : reckF (.mk k n s [x, y]) = match reckF x with | .ball z => .ball z | .num a => match reckF y with | .ball z => .ball z | .num b => finF s 2 a b := by
  rw [reckF_mk, if_neg h2, if_neg h1, if_neg (by show ¬ opB s 2 = false; rw [ho]; exact Bool.noConfusion)]
  simp only [reckL]
  cases reckF x with
  | ball z => rfl
  | num a => cases reckF y <;> rfl
set_option maxHeartbeats 8000000 in
theorem rreck_one (k n : Int) (s : ByteArray) (x : T) (w : World) (ao : Option Addr) (cap : Nat) (hl : Lies w ao [x]) (hs : (T.mk k n s [x]).Sane) (hok : (T.mk k n s [x]).Ok) (hk2 : k ≠ 2) (hk1 : k ≠ 1) (hop2 : opB s 1 = true) (HXx : ∀ (W : World) (xo : Option Addr) (xc : Nat), Lies W xo x.l → x.Sane → Calls Try.prog 49 #[tv x xo xc] W (AnsRk (reckF x) W)) : Calls Try.prog 49 #[tv (.mk k n s [x]) ao cap] w (AnsRk (reckF (.mk k n s [x])) w) := by
  have HB0 := Lib.hid (twoW_box w (.mk k n s [x]) ao cap)
  have HQ0 := Lib.hid (twoW_zero w (.mk k n s [x]) ao cap)
  have HO0 := Lib.hid (twoW_only w (.mk k n s [x]) ao cap)
  have HZ0 := Lib.hid (twoW_size w (.mk k n s [x]) ao cap)
  have HL := Lib.hid hl
  have HS := Lib.hid hs
  have HOK := Lib.hid hok
  have hlen := hs.l
  have hsz := hs.s
  unfold maxLen at hlen
  simp only [T.k, T.n, T.s, T.l] at HB0 HQ0 HO0 HZ0 hsz
  show Calls Try.prog 49 #[.agg #[.int .i64 k, .int .i64 n, .string s, .slice ao [x].length cap]] w _
  clear hl hs hok
  obtain ⟨c0, c1, c2, c3⟩ := HB0.out.cells
  obtain ⟨d0, d1, d2, d3⟩ := HQ0.out.cells
  obtain ⟨f0, f1, f2, f3⟩ := HQ0.out.free
  have e2 : (k == 2) = false := by simpa using hk2
  have e1 : (k == 1) = false := by simpa using hk1
  have HIX : Hid (∀ z ∈ [x], ∀ (W : World) (xo : Option Addr) (xc : Nat), Lies W xo z.l → z.Sane → Calls Try.prog 49 #[tv z xo xc] W (AnsRk (reckF z) W)) := Lib.hid (fun z hz => by rw [List.mem_singleton.1 hz]; exact HXx)
  have HRN : Hid (∀ z ∈ [x], ∀ m, reckF z = .num m → Rng m) := Lib.hid (fun z hz m hm => reckF_rng (Ok_item HOK.out hz).right hm)
  have HE0 := reckF_one (n := n) (x := x) hk2 hk1 hop2
  have HON := Lib.hid (fun (a : Int) (ha : Rng a) W => rone_any s a W hop2 ha)
  have HOR := Lib.hid (fun (a : Int) (ha : Rng a) => outF_in (oneF_rng (s := s) ha))
  have HIS := Lib.hid (fun W => knownA s 1 W)
  rw [show opB s 1 = true from hop2] at HIS
  obtain ⟨b, off, ro, rc, rfl, hb, q0, q1, q2, q3, hsane, hsub⟩ := Lies.at0 HL.out
  obtain ⟨g0, g1, g2, g3⟩ : (zeroW (w.alloc (.cells #[.int .i64 k, .int .i64 n, .string s, .slice (some ⟨b, off, none⟩) 1 cap] 24))).cell? ⟨b, off, none⟩ = some (.int .i64 x.k) ∧ (zeroW (w.alloc (.cells #[.int .i64 k, .int .i64 n, .string s, .slice (some ⟨b, off, none⟩) 1 cap] 24))).cell? ⟨b, off + 1, none⟩ = some (.int .i64 x.n) ∧ (zeroW (w.alloc (.cells #[.int .i64 k, .int .i64 n, .string s, .slice (some ⟨b, off, none⟩) 1 cap] 24))).cell? ⟨b, off + 2, none⟩ = some (.string x.s) ∧ (zeroW (w.alloc (.cells #[.int .i64 k, .int .i64 n, .string s, .slice (some ⟨b, off, none⟩) 1 cap] 24))).cell? ⟨b, off + 3, none⟩ = some (.slice ro x.l.length rc) := ⟨(HO0.out.cell (p := ⟨b, off, none⟩) hb (fun e => e)).trans q0, (HO0.out.cell (p := ⟨b, off + 1, none⟩) hb (fun e => e)).trans q1, (HO0.out.cell (p := ⟨b, off + 2, none⟩) hb (fun e => e)).trans q2, (HO0.out.cell (p := ⟨b, off + 3, none⟩) hb (fun e => e)).trans q3⟩
  have HREC := Lib.hid (fun W (ho : Only (fun _ => False) w W) => HIX.out x (by simp) W ro rc (hsub.later ho) hsane)
  have HRX := Lib.hid (HRN.out x (by simp))
  clear hsane hsub hb q0 q1 q2 q3
  generalize hR : reckF (.mk k n s [x]) = R at *
  have HEH := Lib.hid HE0
  clear hR HE0
  go_enter Try.func49, Try.ntmps49
  go_wp2_with fail
  refine (HIS.out _).mono ?_
  rintro e w1 ⟨rfl, rfl⟩
  go_wp2_with fail
  have H := HREC.out _ HO0.out
  cases hr : reckF x with
  | ball y =>
    have HE := HEH.out
    rw [hr] at H HE
    clear HEH
    simp only at HE
    subst HE
    refine H.mono ?_
    clear H
    intro e w2 h2
    obtain ⟨a2, p2, rfl, hl2, ho2⟩ := h2.ball
    have ho3 : Only (fun _ => False) w2 (w2.alloc (.cells #[.int .i64 4, .int .i64 0, .string nError, .slice a2 1 p2] 24)) := Only.alloc _ _ _
    have HO3 := Lib.hid ((HO0.out.same ho2).same ho3)
    have HZR := Lib.hid (HQ0.out.only (ho2.same ho3) (fun e => e))
    have hx2 := HZ0.out
    have HL3 : Hid (Row (fun q => w.heap.size + 2 ≤ q ∧ q < w2.heap.size) (w2.alloc (.cells #[.int .i64 4, .int .i64 0, .string nError, .slice a2 1 p2] 24)) a2 [y]) := Lib.hid ((hl2.only ho3 (fun k hk => by rcases hk with hk | hk; exact hk.elim; exact hk.2) (fun _ _ e => e)).mono (fun q hq => by
      rcases hq with hq | hq
      · exact hq.elim
      · exact ⟨by omega, hq.2⟩))
    clear h2 hl2 ho2 ho3 hr c0 c1 c2 c3 d0 d1 d2 d3 f0 f1 f2 f3 g0 g1 g2 g3 hx2
    obtain ⟨c0, c1, c2, c3⟩ := HZR.out.cells
    obtain ⟨f0, f1, f2, f3⟩ := HZR.out.free
    have HS3 := Lib.hid (HZR.out.set (.int .i64 4) (.int .i64 0) (.string nError) (.slice a2 1 p2))
    have g0 : Quad w2.heap.size (.int .i64 4) (.int .i64 0) (.string nError) (.slice a2 1 p2) (w2.alloc (.cells #[.int .i64 4, .int .i64 0, .string nError, .slice a2 1 p2] 24)) := heap_alloc_new _ _
    obtain ⟨g0, g1, g2, g3⟩ := g0.cells
    generalize hw3 : w2.alloc (.cells #[.int .i64 4, .int .i64 0, .string nError, .slice a2 1 p2] 24) = w3 at *
    have HZ3 : Hid (w2.heap.size ≤ w3.heap.size) := Lib.hid (by rw [← hw3]; simp)
    go_wp2_with fail
    clear hw3
    generalize w2.heap.size = bb at *
    go_region
    go_wp2_with fail
    have hc := HS3.out.1.cells
    refine bodyPost_ret (v := .tuple #[.int .i64 0, .agg #[.int .i64 4, .int .i64 0, .string nError, .slice a2 1 p2], .bool false]) (results_rk rfl _ ((quadW w3 (w.heap.size + 1) (.int .i64 4) (.int .i64 0) (.string nError) (.slice a2 1 p2)).drew) (w.heap.size + 1) _ _ _ _ _ _ rfl rfl rfl hc.1 hc.2.1 hc.2.2.1 hc.2.2.2) rfl ?_
    have o4 : Only (· = w.heap.size + 1) w3 ((quadW w3 (w.heap.size + 1) (.int .i64 4) (.int .i64 0) (.string nError) (.slice a2 1 p2)).drew) := HS3.out.2.same (Only.drew _ _)
    have hz3 := HZ3.out
    exact ⟨a2, p2, rfl, (HL3.out.past (w.heap.size + 1) o4 (fun k hk => by have := hk.2; omega) (fun k hk => by have := hk.1; omega)).mono (fun k hk => .inr ⟨by have := hk.1; omega, Nat.lt_of_lt_of_le (by have := hk.2; omega) o4.size⟩), Only.cut HO3.out o4 (fun k e => by omega)⟩
  | num a =>
    have HE := HEH.out
    rw [hr] at H HE
    clear HEH
    simp only at HE
    have HEV := Lib.hid HE
    clear HE
    refine H.mono ?_
    clear H
    intro e w2 h2
    obtain ⟨rfl, ho2⟩ := h2.num
    have ho3 : Only (fun _ => False) w2 (w2.alloc (.cells #[.int .i64 0, .int .i64 0, .string ⟨#[]⟩, .slice none 0 0] 24)) := Only.alloc _ _ _
    have HO3 := Lib.hid ((HO0.out.same ho2).same ho3)
    have HB3 := Lib.hid (HB0.out.only (ho2.same ho3) (fun e => e))
    have HZR := Lib.hid (HQ0.out.only (ho2.same ho3) (fun e => e))
    have HV3 : Hid (Zero w2.heap.size (w2.alloc (.cells #[.int .i64 0, .int .i64 0, .string ⟨#[]⟩, .slice none 0 0] 24))) := Lib.hid (Zero.new w2)
    have HRA := Lib.hid (HRX.out a hr)
    have hx2 := HZ0.out
    have HW2 : Hid (w.heap.size + 2 ≤ w2.heap.size) := Lib.hid (by have := ho2.size; omega)
    clear h2 ho2 ho3 hr c0 c1 c2 c3 d0 d1 d2 d3 f0 f1 f2 f3 g0 g1 g2 g3 hx2
    obtain ⟨c0, c1, c2, c3⟩ := HB3.out.cells
    obtain ⟨d0, d1, d2, d3⟩ := HZR.out.cells
    obtain ⟨f0, f1, f2, f3⟩ := HZR.out.free
    have HE2 : R = .num (oneF s a) := by rw [HEV.out]; unfold finF; rw [if_pos rfl]; exact HOR.out a HRA.out
    subst HE2
    have HW3 := Lib.hid (HZR.out.set (.int .i64 0) (.int .i64 0) (.string ⟨#[]⟩) (.slice none 0 0))
    go_wp2_with fail
    refine (HON.out a HRA.out _).mono ?_
    rintro e w4 ⟨rfl, rfl⟩
    go_wp2_with fail
    have hc := HW3.out.1.cells
    refine bodyPost_ret (v := .tuple #[.int .i64 (oneF s a), .agg #[.int .i64 0, .int .i64 0, .string ⟨#[]⟩, .slice none 0 0], .bool true]) (results_rk rfl _ _ (w.heap.size + 1) _ _ _ _ _ _ rfl rfl rfl hc.1 hc.2.1 hc.2.2.1 hc.2.2.2) rfl ?_
    exact ⟨rfl, Only.cut HO3.out HW3.out.2 (fun k e => by omega)⟩
set_option maxHeartbeats 8000000 in
theorem rreck_two (k n : Int) (s : ByteArray) (x y : T) (w : World) (ao : Option Addr) (cap : Nat) (hl : Lies w ao [x, y]) (hs : (T.mk k n s [x, y]).Sane) (hok : (T.mk k n s [x, y]).Ok) (hk2 : k ≠ 2) (hk1 : k ≠ 1) (hop2 : opB s 2 = true) (HXx : ∀ (W : World) (xo : Option Addr) (xc : Nat), Lies W xo x.l → x.Sane → Calls Try.prog 49 #[tv x xo xc] W (AnsRk (reckF x) W)) (HXy : ∀ (W : World) (xo : Option Addr) (xc : Nat), Lies W xo y.l → y.Sane → Calls Try.prog 49 #[tv y xo xc] W (AnsRk (reckF y) W)) : Calls Try.prog 49 #[tv (.mk k n s [x, y]) ao cap] w (AnsRk (reckF (.mk k n s [x, y])) w) := by
  have HB0 := Lib.hid (twoW_box w (.mk k n s [x, y]) ao cap)
  have HQ0 := Lib.hid (twoW_zero w (.mk k n s [x, y]) ao cap)
  have HO0 := Lib.hid (twoW_only w (.mk k n s [x, y]) ao cap)
  have HZ0 := Lib.hid (twoW_size w (.mk k n s [x, y]) ao cap)
  have HL := Lib.hid hl
  have HS := Lib.hid hs
  have HOK := Lib.hid hok
  have hlen := hs.l
  have hsz := hs.s
  unfold maxLen at hlen
  simp only [T.k, T.n, T.s, T.l] at HB0 HQ0 HO0 HZ0 hsz
  show Calls Try.prog 49 #[.agg #[.int .i64 k, .int .i64 n, .string s, .slice ao [x, y].length cap]] w _
  clear hl hs hok
  obtain ⟨c0, c1, c2, c3⟩ := HB0.out.cells
  obtain ⟨d0, d1, d2, d3⟩ := HQ0.out.cells
  obtain ⟨f0, f1, f2, f3⟩ := HQ0.out.free
  have e2 : (k == 2) = false := by simpa using hk2
  have e1 : (k == 1) = false := by simpa using hk1
  have HIX : Hid (∀ z ∈ [x, y], ∀ (W : World) (xo : Option Addr) (xc : Nat), Lies W xo z.l → z.Sane → Calls Try.prog 49 #[tv z xo xc] W (AnsRk (reckF z) W)) := Lib.hid (fun z hz => by
    rcases List.mem_cons.1 hz with rfl | hz
    · exact HXx
    · rw [List.mem_singleton.1 hz]; exact HXy)
  have HRN : Hid (∀ z ∈ [x, y], ∀ m, reckF z = .num m → Rng m) := Lib.hid (fun z hz m hm => reckF_rng (Ok_item HOK.out hz).right hm)
  have HE0 := reckF_two (n := n) (x := x) (y := y) hk2 hk1 hop2
  have HTW := Lib.hid (fun (a b : Int) (ha : Rng a) (hb : Rng b) W => rtwo_any s a b W hop2 ha hb)
  have HIS := Lib.hid (fun W => knownA s 2 W)
  rw [show opB s 2 = true from hop2] at HIS
  have HLY := HL
  have HIY := Lib.hid (fun W xo xc => HIX.out y (by simp) W xo xc)
  have HRY := Lib.hid (HRN.out y (by simp))
  obtain ⟨b, off, ro, rc, rfl, hb, q0, q1, q2, q3, hsane, hsub⟩ := Lies.at0 HL.out
  obtain ⟨g0, g1, g2, g3⟩ : (zeroW (w.alloc (.cells #[.int .i64 k, .int .i64 n, .string s, .slice (some ⟨b, off, none⟩) 2 cap] 24))).cell? ⟨b, off, none⟩ = some (.int .i64 x.k) ∧ (zeroW (w.alloc (.cells #[.int .i64 k, .int .i64 n, .string s, .slice (some ⟨b, off, none⟩) 2 cap] 24))).cell? ⟨b, off + 1, none⟩ = some (.int .i64 x.n) ∧ (zeroW (w.alloc (.cells #[.int .i64 k, .int .i64 n, .string s, .slice (some ⟨b, off, none⟩) 2 cap] 24))).cell? ⟨b, off + 2, none⟩ = some (.string x.s) ∧ (zeroW (w.alloc (.cells #[.int .i64 k, .int .i64 n, .string s, .slice (some ⟨b, off, none⟩) 2 cap] 24))).cell? ⟨b, off + 3, none⟩ = some (.slice ro x.l.length rc) := ⟨(HO0.out.cell (p := ⟨b, off, none⟩) hb (fun e => e)).trans q0, (HO0.out.cell (p := ⟨b, off + 1, none⟩) hb (fun e => e)).trans q1, (HO0.out.cell (p := ⟨b, off + 2, none⟩) hb (fun e => e)).trans q2, (HO0.out.cell (p := ⟨b, off + 3, none⟩) hb (fun e => e)).trans q3⟩
  have HREC := Lib.hid (fun W (ho : Only (fun _ => False) w W) => HIX.out x (by simp) W ro rc (hsub.later ho) hsane)
  have HRX := Lib.hid (HRN.out x (by simp))
  clear hsane hsub hb q0 q1 q2 q3
  generalize hR : reckF (.mk k n s [x, y]) = R at *
  have HEH := Lib.hid HE0
  clear hR HE0
  go_enter Try.func49, Try.ntmps49
  go_wp2_with fail
  refine (HIS.out _).mono ?_
  rintro e w1 ⟨rfl, rfl⟩
  go_wp2_with fail
  have H := HREC.out _ HO0.out
  cases hr : reckF x with
  | ball z =>
    have HE := HEH.out
    rw [hr] at H HE
    clear HEH
    simp only at HE
    subst HE
    refine H.mono ?_
    clear H
    intro e w2 h2
    obtain ⟨a2, p2, rfl, hl2, ho2⟩ := h2.ball
    have ho3 : Only (fun _ => False) w2 (w2.alloc (.cells #[.int .i64 4, .int .i64 0, .string nError, .slice a2 1 p2] 24)) := Only.alloc _ _ _
    have HO3 := Lib.hid ((HO0.out.same ho2).same ho3)
    have HZR := Lib.hid (HQ0.out.only (ho2.same ho3) (fun e => e))
    have hx2 := HZ0.out
    have HL3 : Hid (Row (fun q => w.heap.size + 2 ≤ q ∧ q < w2.heap.size) (w2.alloc (.cells #[.int .i64 4, .int .i64 0, .string nError, .slice a2 1 p2] 24)) a2 [z]) := Lib.hid ((hl2.only ho3 (fun k hk => by rcases hk with hk | hk; exact hk.elim; exact hk.2) (fun _ _ e => e)).mono (fun q hq => by
      rcases hq with hq | hq
      · exact hq.elim
      · exact ⟨by omega, hq.2⟩))
    clear h2 hl2 ho2 ho3 hr c0 c1 c2 c3 d0 d1 d2 d3 f0 f1 f2 f3 g0 g1 g2 g3 hx2
    obtain ⟨c0, c1, c2, c3⟩ := HZR.out.cells
    obtain ⟨f0, f1, f2, f3⟩ := HZR.out.free
    have HS3 := Lib.hid (HZR.out.set (.int .i64 4) (.int .i64 0) (.string nError) (.slice a2 1 p2))
    have g0 : Quad w2.heap.size (.int .i64 4) (.int .i64 0) (.string nError) (.slice a2 1 p2) (w2.alloc (.cells #[.int .i64 4, .int .i64 0, .string nError, .slice a2 1 p2] 24)) := heap_alloc_new _ _
    obtain ⟨g0, g1, g2, g3⟩ := g0.cells
    generalize hw3 : w2.alloc (.cells #[.int .i64 4, .int .i64 0, .string nError, .slice a2 1 p2] 24) = w3 at *
    have HZ3 : Hid (w2.heap.size ≤ w3.heap.size) := Lib.hid (by rw [← hw3]; simp)
    go_wp2_with fail
    clear hw3
    generalize w2.heap.size = bb at *
    go_region
    go_wp2_with fail
    have hc := HS3.out.1.cells
    refine bodyPost_ret (v := .tuple #[.int .i64 0, .agg #[.int .i64 4, .int .i64 0, .string nError, .slice a2 1 p2], .bool false]) (results_rk rfl _ ((quadW w3 (w.heap.size + 1) (.int .i64 4) (.int .i64 0) (.string nError) (.slice a2 1 p2)).drew) (w.heap.size + 1) _ _ _ _ _ _ rfl rfl rfl hc.1 hc.2.1 hc.2.2.1 hc.2.2.2) rfl ?_
    have o4 : Only (· = w.heap.size + 1) w3 ((quadW w3 (w.heap.size + 1) (.int .i64 4) (.int .i64 0) (.string nError) (.slice a2 1 p2)).drew) := HS3.out.2.same (Only.drew _ _)
    have hz3 := HZ3.out
    exact ⟨a2, p2, rfl, (HL3.out.past (w.heap.size + 1) o4 (fun k hk => by have := hk.2; omega) (fun k hk => by have := hk.1; omega)).mono (fun k hk => .inr ⟨by have := hk.1; omega, Nat.lt_of_lt_of_le (by have := hk.2; omega) o4.size⟩), Only.cut HO3.out o4 (fun k e => by omega)⟩
  | num a =>
    have HE := HEH.out
    rw [hr] at H HE
    clear HEH
    simp only at HE
    have HEV := Lib.hid HE
    clear HE
    refine H.mono ?_
    clear H
    intro e w2 h2
    obtain ⟨rfl, ho2⟩ := h2.num
    have ho3 : Only (fun _ => False) w2 (w2.alloc (.cells #[.int .i64 0, .int .i64 0, .string ⟨#[]⟩, .slice none 0 0] 24)) := Only.alloc _ _ _
    have HO3 := Lib.hid ((HO0.out.same ho2).same ho3)
    have HB3 := Lib.hid (HB0.out.only (ho2.same ho3) (fun e => e))
    have HZR := Lib.hid (HQ0.out.only (ho2.same ho3) (fun e => e))
    have HV3 : Hid (Zero w2.heap.size (w2.alloc (.cells #[.int .i64 0, .int .i64 0, .string ⟨#[]⟩, .slice none 0 0] 24))) := Lib.hid (Zero.new w2)
    have HRA := Lib.hid (HRX.out a hr)
    have hx2 := HZ0.out
    have HW2 : Hid (w.heap.size + 2 ≤ w2.heap.size) := Lib.hid (by have := ho2.size; omega)
    clear h2 ho2 ho3 hr c0 c1 c2 c3 d0 d1 d2 d3 f0 f1 f2 f3 g0 g1 g2 g3 hx2
    obtain ⟨c0, c1, c2, c3⟩ := HB3.out.cells
    obtain ⟨d0, d1, d2, d3⟩ := HZR.out.cells
    obtain ⟨f0, f1, f2, f3⟩ := HZR.out.free
    obtain ⟨so, sc, g0, g1, g2, g3, hsane, hsub⟩ := Lies.at1 (HLY.out.later HO3.out)
    have HREY := Lib.hid (fun W (ho : Only (fun _ => False) (w2.alloc (.cells #[.int .i64 0, .int .i64 0, .string ⟨#[]⟩, .slice none 0 0] 24)) W) => HIY.out W so sc (hsub.later ho) hsane)
    clear hsane hsub
    have HWW : Hid (w2.heap.size < (w2.alloc (.cells #[.int .i64 0, .int .i64 0, .string ⟨#[]⟩, .slice none 0 0] 24)).heap.size) := Lib.hid (by simp)
    go_wp2_with fail
    generalize w2.alloc (.cells #[.int .i64 0, .int .i64 0, .string ⟨#[]⟩, .slice none 0 0] 24) = w3 at *
    generalize w2.heap.size = bb at *
    have H := HREY.out _ (Only.refl _ _)
    cases hr2 : reckF y with
    | ball z =>
      have HE := HEV.out
      rw [hr2] at H HE
      clear HEV
      simp only at HE
      subst HE
      refine H.mono ?_
      clear H
      intro e w4 h2
      obtain ⟨a2, p2, rfl, hl4, ho4⟩ := h2.ball
      have HL4 := Lib.hid hl4
      have HSZ4 := Lib.hid ho4.size
      have HO4 := Lib.hid (HO3.out.same ho4)
      have HB4 := Lib.hid (HB3.out.only ho4 (fun e => e))
      have HZ4 := Lib.hid (HZR.out.only ho4 (fun e => e))
      have HV4 := Lib.hid (HV3.out.only ho4 (fun e => e))
      have HS5 : Hid (Quad bb (.int .i64 4) (.int .i64 0) (.string nError) (.slice a2 1 p2) ((((w4.setCell ⟨bb, 0, none⟩ (.int .i64 4)).setCell ⟨bb, 1, none⟩ (.int .i64 0)).setCell ⟨bb, 2, none⟩ (.string nError)).setCell ⟨bb, 3, none⟩ (.slice a2 1 p2)) ∧ Only (· = bb) w4 ((((w4.setCell ⟨bb, 0, none⟩ (.int .i64 4)).setCell ⟨bb, 1, none⟩ (.int .i64 0)).setCell ⟨bb, 2, none⟩ (.string nError)).setCell ⟨bb, 3, none⟩ (.slice a2 1 p2))) := Lib.hid (HV4.out.set (.int .i64 4) (.int .i64 0) (.string nError) (.slice a2 1 p2))
      have hbb := HW2.out
      have HO5 : Hid (Only (fun _ => False) w ((((w4.setCell ⟨bb, 0, none⟩ (.int .i64 4)).setCell ⟨bb, 1, none⟩ (.int .i64 0)).setCell ⟨bb, 2, none⟩ (.string nError)).setCell ⟨bb, 3, none⟩ (.slice a2 1 p2))) := Lib.hid (Only.cut HO4.out HS5.out.2 (fun k e => by omega))
      have HB5 : Hid (Quad w.heap.size (.int .i64 k) (.int .i64 n) (.string s) (.slice (some ⟨b, off, none⟩) 2 cap) ((((w4.setCell ⟨bb, 0, none⟩ (.int .i64 4)).setCell ⟨bb, 1, none⟩ (.int .i64 0)).setCell ⟨bb, 2, none⟩ (.string nError)).setCell ⟨bb, 3, none⟩ (.slice a2 1 p2))) := Lib.hid (HB4.out.only HS5.out.2 (by omega))
      have HZ5 : Hid (Zero (w.heap.size + 1) ((((w4.setCell ⟨bb, 0, none⟩ (.int .i64 4)).setCell ⟨bb, 1, none⟩ (.int .i64 0)).setCell ⟨bb, 2, none⟩ (.string nError)).setCell ⟨bb, 3, none⟩ (.slice a2 1 p2))) := Lib.hid (HZ4.out.only HS5.out.2 (by omega))
      clear h2 c0 c1 c2 c3 d0 d1 d2 d3 f0 f1 f2 f3 g0 g1 g2 g3 hbb
      obtain ⟨c0, c1, c2, c3⟩ := HV4.out.cells
      obtain ⟨f0, f1, f2, f3⟩ := HV4.out.free
      go_wp2_with fail
      have HL5 : Hid (Row (fun q => w.heap.size + 2 ≤ q ∧ q < w4.heap.size) ((((w4.setCell ⟨bb, 0, none⟩ (.int .i64 4)).setCell ⟨bb, 1, none⟩ (.int .i64 0)).setCell ⟨bb, 2, none⟩ (.string nError)).setCell ⟨bb, 3, none⟩ (.slice a2 1 p2)) a2 [z]) := Lib.hid ((HL4.out.past bb HS5.out.2 (newP_lt no_lt HSZ4.out) (fun q hq => by
        have := HWW.out
        rcases hq with hq | hq
        · exact hq.elim
        · omega)).mono (fun q hq => by
        have := HWW.out
        have := HW2.out
        rcases hq with hq | hq
        · exact hq.elim
        · exact ⟨by omega, hq.2⟩))
      have HSW5 := HS5.out.2.size
      clear c0 c1 c2 c3 f0 f1 f2 f3 HL4
      generalize (((w4.setCell ⟨bb, 0, none⟩ (.int .i64 4)).setCell ⟨bb, 1, none⟩ (.int .i64 0)).setCell ⟨bb, 2, none⟩ (.string nError)).setCell ⟨bb, 3, none⟩ (.slice a2 1 p2) = w3' at *
      obtain ⟨g0, g1, g2, g3⟩ := HS5.out.1.cells
      obtain ⟨c0, c1, c2, c3⟩ := HZ5.out.cells
      obtain ⟨f0, f1, f2, f3⟩ := HZ5.out.free
      have HS6 := Lib.hid (HZ5.out.set (.int .i64 4) (.int .i64 0) (.string nError) (.slice a2 1 p2))
      go_region
      go_wp2_with fail
      have hc := HS6.out.1.cells
      refine bodyPost_ret (v := .tuple #[.int .i64 0, .agg #[.int .i64 4, .int .i64 0, .string nError, .slice a2 1 p2], .bool false]) (results_rk rfl _ ((quadW w3' (w.heap.size + 1) (.int .i64 4) (.int .i64 0) (.string nError) (.slice a2 1 p2)).drew) (w.heap.size + 1) _ _ _ _ _ _ rfl rfl rfl hc.1 hc.2.1 hc.2.2.1 hc.2.2.2) rfl ?_
      have o6 : Only (· = w.heap.size + 1) w3' ((quadW w3' (w.heap.size + 1) (.int .i64 4) (.int .i64 0) (.string nError) (.slice a2 1 p2)).drew) := HS6.out.2.same (Only.drew _ _)
      exact ⟨a2, p2, rfl, (HL5.out.past (w.heap.size + 1) o6 (fun k hk => by have := hk.2; omega) (fun k hk => by have := hk.1; omega)).mono (fun k hk => .inr ⟨by have := hk.1; omega, Nat.lt_of_lt_of_le (by have := hk.2; omega) o6.size⟩), Only.cut HO5.out o6 (fun k e => by omega)⟩
    | num c =>
      have HE := HEV.out
      rw [hr2] at H HE
      clear HEV
      simp only at HE
      have HTV := Lib.hid (fun W => HTW.out a c HRA.out (HRY.out c hr2) W)
      rw [← HE] at HTV
      clear HE HTW
      refine H.mono ?_
      clear H
      intro e w4 h2
      obtain ⟨rfl, ho4⟩ := h2.num
      have HO4 := Lib.hid (HO3.out.same ho4)
      have HB4 := Lib.hid (HB3.out.only ho4 (fun e => e))
      have HZ4 := Lib.hid (HZR.out.only ho4 (fun e => e))
      have HV4 := Lib.hid (HV3.out.only ho4 (fun e => e))
      have HS5 : Hid (Quad bb (.int .i64 0) (.int .i64 0) (.string ⟨#[]⟩) (.slice none 0 0) ((((w4.setCell ⟨bb, 0, none⟩ (.int .i64 0)).setCell ⟨bb, 1, none⟩ (.int .i64 0)).setCell ⟨bb, 2, none⟩ (.string ⟨#[]⟩)).setCell ⟨bb, 3, none⟩ (.slice none 0 0)) ∧ Only (· = bb) w4 ((((w4.setCell ⟨bb, 0, none⟩ (.int .i64 0)).setCell ⟨bb, 1, none⟩ (.int .i64 0)).setCell ⟨bb, 2, none⟩ (.string ⟨#[]⟩)).setCell ⟨bb, 3, none⟩ (.slice none 0 0))) := Lib.hid (HV4.out.set (.int .i64 0) (.int .i64 0) (.string ⟨#[]⟩) (.slice none 0 0))
      have hbb := HW2.out
      have HO5 : Hid (Only (fun _ => False) w ((((w4.setCell ⟨bb, 0, none⟩ (.int .i64 0)).setCell ⟨bb, 1, none⟩ (.int .i64 0)).setCell ⟨bb, 2, none⟩ (.string ⟨#[]⟩)).setCell ⟨bb, 3, none⟩ (.slice none 0 0))) := Lib.hid (Only.cut HO4.out HS5.out.2 (fun k e => by omega))
      have HB5 : Hid (Quad w.heap.size (.int .i64 k) (.int .i64 n) (.string s) (.slice (some ⟨b, off, none⟩) 2 cap) ((((w4.setCell ⟨bb, 0, none⟩ (.int .i64 0)).setCell ⟨bb, 1, none⟩ (.int .i64 0)).setCell ⟨bb, 2, none⟩ (.string ⟨#[]⟩)).setCell ⟨bb, 3, none⟩ (.slice none 0 0))) := Lib.hid (HB4.out.only HS5.out.2 (by omega))
      have HZ5 : Hid (Zero (w.heap.size + 1) ((((w4.setCell ⟨bb, 0, none⟩ (.int .i64 0)).setCell ⟨bb, 1, none⟩ (.int .i64 0)).setCell ⟨bb, 2, none⟩ (.string ⟨#[]⟩)).setCell ⟨bb, 3, none⟩ (.slice none 0 0))) := Lib.hid (HZ4.out.only HS5.out.2 (by omega))
      clear h2 c0 c1 c2 c3 d0 d1 d2 d3 f0 f1 f2 f3 g0 g1 g2 g3 hbb
      obtain ⟨c0, c1, c2, c3⟩ := HV4.out.cells
      obtain ⟨f0, f1, f2, f3⟩ := HV4.out.free
      obtain ⟨q0, q1, q2, q3⟩ := HB5.out.cells
      go_wp2_with fail
      clear c0 c1 c2 c3 f0 f1 f2 f3 q0 q1 q2 q3
      generalize (((w4.setCell ⟨bb, 0, none⟩ (.int .i64 0)).setCell ⟨bb, 1, none⟩ (.int .i64 0)).setCell ⟨bb, 2, none⟩ (.string ⟨#[]⟩)).setCell ⟨bb, 3, none⟩ (.slice none 0 0) = w5 at *
      cases R with
      | num m =>
        refine (HTV.out w5).mono ?_
        intro e w6 h2
        obtain ⟨rfl, ho6⟩ := h2.num
        have HZ6 := Lib.hid (HZ5.out.only ho6 (fun e => e))
        have HO6 := Lib.hid (HO5.out.same ho6)
        have HS6 := Lib.hid (HZ6.out.set (.int .i64 0) (.int .i64 0) (.string ⟨#[]⟩) (.slice none 0 0))
        clear h2 ho6
        obtain ⟨c0, c1, c2, c3⟩ := HZ6.out.cells
        obtain ⟨f0, f1, f2, f3⟩ := HZ6.out.free
        go_wp2_with fail
        have hc := HS6.out.1.cells
        refine bodyPost_ret (v := .tuple #[.int .i64 m, .agg #[.int .i64 0, .int .i64 0, .string ⟨#[]⟩, .slice none 0 0], .bool true]) (results_rk rfl _ _ (w.heap.size + 1) _ _ _ _ _ _ rfl rfl rfl hc.1 hc.2.1 hc.2.2.1 hc.2.2.2) rfl ?_
        exact ⟨rfl, Only.cut HO6.out HS6.out.2 (fun k e => by omega)⟩
      | ball z =>
        refine (HTV.out w5).mono ?_
        intro e w6 h2
        obtain ⟨a2, p2, rfl, hl6, ho6⟩ := h2.ball
        have HL6 := Lib.hid hl6
        have HSZ6 := Lib.hid ho6.size
        have HSZ5 : Hid (w.heap.size + 1 < w5.heap.size) := Lib.hid HZ5.out.lt
        have HZ6 := Lib.hid (HZ5.out.only ho6 (fun e => e))
        have HO6 := Lib.hid (HO5.out.same ho6)
        have HS6 := Lib.hid (HZ6.out.set (.int .i64 4) (.int .i64 0) (.string nError) (.slice a2 1 p2))
        clear h2 hl6 ho6
        obtain ⟨c0, c1, c2, c3⟩ := HZ6.out.cells
        obtain ⟨f0, f1, f2, f3⟩ := HZ6.out.free
        go_wp2_with fail
        have hc := HS6.out.1.cells
        refine bodyPost_ret (v := .tuple #[.int .i64 0, .agg #[.int .i64 4, .int .i64 0, .string nError, .slice a2 1 p2], .bool false]) (results_rk rfl _ _ (w.heap.size + 1) _ _ _ _ _ _ rfl rfl rfl hc.1 hc.2.1 hc.2.2.1 hc.2.2.2) rfl ?_
        exact ⟨a2, p2, rfl, HL6.out.fin HS6.out.2 (by omega) HSZ5.out HSZ6.out no_lt, Only.cut HO6.out HS6.out.2 (fun k e => by omega)⟩
set_option maxHeartbeats 8000000 in
theorem rreckon_any (t : T) : ∀ (w : World) (ao : Option Addr) (cap : Nat), Lies w ao t.l → t.Sane → t.Ok → Calls Try.prog 49 #[tv t ao cap] w (AnsRk (reckF t) w) := by
  induction t using T.ind with
  | h k n s l ih =>
    intro w ao cap hl hs hok
    have HB0 := Lib.hid (twoW_box w (.mk k n s l) ao cap)
    have HQ0 := Lib.hid (twoW_zero w (.mk k n s l) ao cap)
    have HO0 := Lib.hid (twoW_only w (.mk k n s l) ao cap)
    have HZ0 := Lib.hid (twoW_size w (.mk k n s l) ao cap)
    have HL := Lib.hid hl
    have HS := Lib.hid hs
    have HOK := Lib.hid hok
    have HI := Lib.hid ih
    have hlen := hs.l
    have hsz := hs.s
    unfold maxLen at hlen
    simp only [T.l] at hlen hl
    have hkk := right_kind hok.right
    simp only [T.k] at hkk
    simp only [T.k, T.n, T.s, T.l] at HB0 HQ0 HO0 HZ0 hsz
    show Calls Try.prog 49 #[.agg #[.int .i64 k, .int .i64 n, .string s, .slice ao l.length cap]] w _
    clear hl hs hok ih
    obtain ⟨c0, c1, c2, c3⟩ := HB0.out.cells
    obtain ⟨d0, d1, d2, d3⟩ := HQ0.out.cells
    obtain ⟨f0, f1, f2, f3⟩ := HQ0.out.free
    by_cases hk2 : k = 2
    · subst hk2
      have HE : reckF (.mk 2 n s l) = .num n := by rw [reckF_mk, if_pos rfl]
      rw [HE]
      clear HE
      go_enter Try.func49, Try.ntmps49
      go_wp2_with fail
      have hc := HQ0.out.cells
      refine bodyPost_ret (v := .tuple #[.int .i64 n, .agg #[.int .i64 0, .int .i64 0, .string ⟨#[]⟩, .slice none 0 0], .bool true]) (results_rk rfl _ _ (w.heap.size + 1) _ _ _ _ _ _ rfl rfl rfl hc.1 hc.2.1 hc.2.2.1 hc.2.2.2) rfl ?_
      exact ⟨rfl, HO0.out⟩
    · have e2 : (k == 2) = false := by simpa using hk2
      by_cases hk1 : k = 1
      · subst hk1
        have HE : reckF (.mk 1 n s l) = .ball (sAtom nInst) := by rw [reckF_mk, if_neg (by omega), if_pos rfl]
        rw [HE]
        clear HE
        go_enter Try.func49, Try.ntmps49
        go_wp2_with fail
        refine (rInst_any _).mono ?_
        rintro e w1 ⟨a1, p1, rfl, hl1, ho1⟩
        have HL1 := Lib.hid hl1
        have HSZ1 := Lib.hid ho1.size
        have HO1 := Lib.hid (HO0.out.same ho1)
        have HQ1 := Lib.hid (HQ0.out.only ho1 (fun e => e))
        have HS1 := Lib.hid (HQ1.out.set (.int .i64 4) (.int .i64 0) (.string nError) (.slice a1 1 p1))
        clear c0 c1 c2 c3 d0 d1 d2 d3 f0 f1 f2 f3 hl1 ho1
        obtain ⟨c0, c1, c2, c3⟩ := HQ1.out.cells
        obtain ⟨f0, f1, f2, f3⟩ := HQ1.out.free
        go_wp2_with fail
        have hc := HS1.out.1.cells
        refine bodyPost_ret (v := .tuple #[.int .i64 0, .agg #[.int .i64 4, .int .i64 0, .string nError, .slice a1 1 p1], .bool false]) (results_rk rfl _ _ (w.heap.size + 1) _ _ _ _ _ _ rfl rfl rfl hc.1 hc.2.1 hc.2.2.1 hc.2.2.2) rfl ?_
        exact ⟨a1, p1, rfl, HL1.out.fin HS1.out.2 (by omega) (by simp) HSZ1.out no_lt, Only.cut HO1.out HS1.out.2 (fun k e => by omega)⟩
      · have e1 : (k == 1) = false := by simpa using hk1
        have HIS := Lib.hid (fun W => knownA s (l.length : Int) W)
        by_cases hop : opB s (l.length : Int) = false
        · have HE : reckF (.mk k n s l) = .ball (evF (.mk k n s l)) := by rw [reckF_mk, if_neg hk2, if_neg hk1, if_pos hop]
          rw [HE]
          rw [hop] at HIS
          have HIN : Hid (∀ W, Only (fun _ => False) w W → Calls Try.prog 29 #[.agg #[.int .i64 k, .int .i64 n, .string s, .slice ao l.length cap]] W (AnsSlash (.mk k n s l) W)) := Lib.hid (fun W ho => by
            have hz := HOK.out.size
            rcases hkk with h | h | h | h
            · exact absurd h hk1
            · exact absurd h hk2
            · exact rInd_ok3 (.mk k n s l) ao cap W h HS.out (HL.out.later ho) (by omega) HOK.out
            · exact rInd_ok4 (.mk k n s l) ao cap W h HS.out (HL.out.later ho) (by omega) HOK.out)
          have HTY : Hid (∀ (W W0 : World) (a : Option Addr) (p : Nat), Row (NewP no W0 W) W a (slashF (.mk k n s l)) → W0.heap.size ≤ W.heap.size → Calls Try.prog 27 #[.string nEvaluable, .agg #[.int .i64 4, .int .i64 0, .string ⟨#[47]⟩, .slice a 2 p]] W (AnsBall (NewP no W0 W) (evF (.mk k n s l)) W)) := Lib.hid (fun W W0 a p h hz =>
            rType_any nEvaluable (.mk 4 0 ⟨#[47]⟩ (slashF (.mk k n s l))) a p W (by decide +kernel) (sane_comp (by decide +kernel) (by show 2 ≤ maxLen; exact small_lit (by omega))) h (newP_lt no_lt hz))
          clear HE hop hkk
          go_enter Try.func49, Try.ntmps49
          go_wp2_with fail
          refine (HIS.out _).mono ?_
          rintro e w1 ⟨rfl, rfl⟩
          go_wp2_with fail
          refine (HIN.out _ HO0.out).mono ?_
          rintro e w1 ⟨a1, p1, rfl, hl1, ho1⟩
          have HL1 := Lib.hid hl1
          have HO1 := Lib.hid (HO0.out.same ho1)
          have HSZ1 := Lib.hid ho1.size
          have HQ1 := Lib.hid (HQ0.out.only ho1 (fun e => e))
          clear c0 c1 c2 c3 d0 d1 d2 d3 f0 f1 f2 f3 hl1 ho1
          go_wp2_with fail
          refine (HTY.out _ _ a1 p1 HL1.out HSZ1.out).mono ?_
          rintro e w2 ⟨a2, p2, rfl, hl2, ho2⟩
          have HL2 := Lib.hid (hl2.nest HSZ1.out ho2.size)
          have HSZ2 := Lib.hid ho2.size
          have HO2 := Lib.hid (HO1.out.same ho2)
          have HQ2 := Lib.hid (HQ1.out.only ho2 (fun e => e))
          have HS2 := Lib.hid (HQ2.out.set (.int .i64 4) (.int .i64 0) (.string nError) (.slice a2 1 p2))
          clear hl2 ho2
          obtain ⟨c0, c1, c2, c3⟩ := HQ2.out.cells
          obtain ⟨f0, f1, f2, f3⟩ := HQ2.out.free
          go_wp2_with fail
          have hc := HS2.out.1.cells
          refine bodyPost_ret (v := .tuple #[.int .i64 0, .agg #[.int .i64 4, .int .i64 0, .string nError, .slice a2 1 p2], .bool false]) (results_rk rfl _ _ (w.heap.size + 1) _ _ _ _ _ _ rfl rfl rfl hc.1 hc.2.1 hc.2.2.1 hc.2.2.2) rfl ?_
          exact ⟨a2, p2, rfl, HL2.out.fin HS2.out.2 (by omega) (by simp) (Nat.le_trans HSZ1.out HSZ2.out) no_lt, Only.cut HO2.out HS2.out.2 (fun k e => by omega)⟩
        · have hop2 : opB s (l.length : Int) = true := by simpa using hop
          have hl12 : l.length = 1 ∨ l.length = 2 := by rcases op_len hop2 with h | h <;> omega
          rcases hl12 with h1 | h1
          · obtain ⟨x, rfl⟩ := List.length_eq_one_iff.1 h1
            exact rreck_one k n s x w ao cap HL.out HS.out HOK.out hk2 hk1 hop2 (fun W xo xc h1 h2 => HI.out x (by simp) W xo xc h1 h2 (Ok_item HOK.out (by simp)))
          · obtain ⟨x, y, rfl⟩ := two_of h1
            exact rreck_two k n s x y w ao cap HL.out HS.out HOK.out hk2 hk1 hop2 (fun W xo xc h1 h2 => HI.out x (by simp) W xo xc h1 h2 (Ok_item HOK.out (by simp))) (fun W xo xc h1 h2 => HI.out y (by simp) W xo xc h1 h2 (Ok_item HOK.out (by simp)))
end Go.Proofs.Ytleofkmfeooaaaa.terms
