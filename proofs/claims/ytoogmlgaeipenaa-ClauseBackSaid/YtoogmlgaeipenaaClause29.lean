/- Clauses: the reference's Back, of goals. -/
import Derived.Test.YtoogmlgaeipenaaClause28
namespace Go.Proofs.Ytoogmlgaeipenaa.terms
set_option maxRecDepth 100000
open Go.RowKit Go.Proofs.Ytoogmlgaeipenaa.own Go.Maps
/-- What is kept of the beginning: the clause's box, the result's, t's, b's; rows keep apart from them. -/
structure BkC (w : World) (h : T) (ho : Option Addr) (hc : Nat) (x4 x5 : Value) (W : World) : Prop where
  x : Hex w.heap.size (.int .i64 h.k) (.int .i64 h.n) (.string h.s) (.slice ho h.l.length hc) x4 x5 W
  z : Zero (w.heap.size + 1) W
  t : Quad (w.heap.size + 2) (.int .i64 h.k) (.int .i64 h.n) (.string h.s) (.slice ho h.l.length hc) W
  o : Only (fun _ => False) w W
  n : w.heap.size + 4 ≤ W.heap.size
theorem BkC.only {S : Nat → Prop} {w W W' : World} {h : T} {ho : Option Addr} {hc : Nat} {x4 x5 : Value} (H : BkC w h ho hc x4 x5 W) (o : Only S W W') (hS : ∀ k, S k → w.heap.size + 3 ≤ k) : BkC w h ho hc x4 x5 W' :=
  ⟨H.x.only o (fun e => by have := hS _ e; omega), H.z.only o (fun e => by have := hS _ e; omega), H.t.only o (fun e => by have := hS _ e; omega), Only.cut H.o o (fun k e => by have := hS _ e; omega), Nat.le_trans H.n o.size⟩
def ApB (w W : World) (q : Nat) : Prop := (q < w.heap.size ∨ w.heap.size + 4 ≤ q) ∧ q < W.heap.size
set_option maxHeartbeats 16000000 in
theorem rBack_many (h z : T) (gl0 : List Gl) (y : Gl) (gl : List Gl) (hgl : gl = gl0 ++ [y]) (hyz : y.x.t = z) (ho : Option Addr) (hc g gc : Nat) (n : Int) (w : World) (hs : h.Sane) (hl : Lies w ho h.l) (hr : GlP 0 (some ⟨g, 0, none⟩) gc gl w) (hg : GoodG (· < w.heap.size) w gl) (hn : gl.length ≤ 200) (hz : (T.mk 4 0 nIf [h, joinF (gl0.map (fun x => calF x.x.t)) (calF z)]).size ≤ 900000) :
    Calls Try.prog 19 #[.agg #[.int .i64 h.k, .int .i64 h.n, .string h.s, .slice ho h.l.length hc, .slice (some ⟨g, 0, none⟩) gl.length gc, .int .i64 n]] w fun e w' => ∃ a c, e = .returned (tv (clF (T.mk 4 0 nIf [h, joinF (gl0.map (fun x => calF x.x.t)) (calF z)])) a c) ∧ Lies w' a (clF (T.mk 4 0 nIf [h, joinF (gl0.map (fun x => calF x.x.t)) (calF z)])).l ∧ Only (fun _ => False) w w' := by
  obtain ⟨m, hm⟩ : ∃ m, m = gl0.length := ⟨_, rfl⟩
  have hlen : gl.length = m + 1 := by rw [hgl, hm]; simp
  have hget : gl[m]? = some y := by rw [hgl, hm]; simp
  have HY : Hid (y.k = kindF z ∧ z.Sane ∧ Row (· < w.heap.size) w y.x.ao z.l) := Lib.hid (by have := hg y (List.mem_of_getElem? hget); rw [hyz] at this; exact this)
  have HGC : Hid (∀ W, Only (fun _ => False) w W → ∀ j x, gl[j]? = some x → W.cell? ⟨g, j * 5, none⟩ = some (.int .i64 x.k) ∧ W.cell? ⟨g, j * 5 + 1, none⟩ = some (.int .i64 x.x.t.k) ∧ W.cell? ⟨g, j * 5 + 2, none⟩ = some (.int .i64 x.x.t.n) ∧ W.cell? ⟨g, j * 5 + 3, none⟩ = some (.string x.x.t.s) ∧ W.cell? ⟨g, j * 5 + 4, none⟩ = some (.slice x.x.ao x.x.t.l.length x.x.cap)) := Lib.hid (fun W o j x hx => by
    obtain ⟨g', hg', _, a⟩ := gl_at (hr.only o (fun _ _ e => e)) hx
    cases hg'
    exact a)
  have HGG := Lib.hid hg
  obtain ⟨len, hlq⟩ : ∃ len, len = gl.length := ⟨_, rfl⟩
  rw [← hlq] at hlen hn ⊢
  have HGL := Lib.hid hgl
  have HLQ := Lib.hid hlq
  have HM := Lib.hid hm
  have HN := Lib.hid (bk_new w h ho hc (.slice (some ⟨g, 0, none⟩) len gc) (.int .i64 n))
  have hYC := HGC.out _ (HN.out _ rfl).2.2.2.1 m y hget
  rw [hyz] at hYC
  obtain ⟨y0, y1, y2, y3, y4⟩ := hYC
  have y2' : ((w.alloc (.cells #[.int .i64 h.k, .int .i64 h.n, .string h.s, .slice ho h.l.length hc, .slice (some ⟨g, 0, none⟩) len gc, .int .i64 n] 37)).alloc (.cells #[.int .i64 0, .int .i64 0, .string ⟨#[]⟩, .slice none 0 0] 24)).alloc (.cells #[.int .i64 h.k, .int .i64 h.n, .string h.s, .slice ho h.l.length hc] 24) = (_ : World) := rfl
  replace y2 : World.cell? _ ⟨g, m * 5 + 1 + 1, none⟩ = some (.int .i64 z.n) := y2
  replace y3 : World.cell? _ ⟨g, m * 5 + 1 + 2, none⟩ = some (.string z.s) := y3
  replace y4 : World.cell? _ ⟨g, m * 5 + 1 + 3, none⟩ = some (.slice y.x.ao z.l.length y.x.cap) := y4
  clear y2'
  obtain ⟨x0, x1, x2, x3, x4, x5⟩ := (HN.out _ rfl).1.cells
  have oB := (HN.out _ rfl).2.2.2.1.same (Only.alloc (fun _ => False) _ (.cells #[.int .i64 z.k, .int .i64 z.n, .string z.s, .slice y.x.ao z.l.length y.x.cap] 24))
  have b0 := (HGC.out _ oB m y hget).1
  rw [HY.out.1] at y0 b0
  obtain ⟨kz, hkz⟩ : ∃ kz, kz = kindF z := ⟨_, rfl⟩
  rw [← hkz] at y0 b0
  have HKZ := Lib.hid hkz
  have hgt : (len : Int) > 0 := by omega
  have hgd : decide (0 < len) = true := decide_eq_true (by omega)
  have h3 : IntKind.i64.wrap ((len : Int) - 1) = (m : Int) := by rw [IntWalk.i64_in _ (by omega)]; omega
  have h4 : (0 : Int) ≤ (m : Int) := by omega
  have h5 : (m : Int) < (len : Int) := by omega
  have h2 : IntKind.i64.wrap ((len : Int) - 2) = (m : Int) - 1 := by rw [IntWalk.i64_in _ (by omega)]; omega
  have h7 : ((m : Int)).toNat = m := by omega
  have HS := Lib.hid hs
  have HL := Lib.hid hl
  have HZZ := Lib.hid hz
  have HB4 : Hid (BkC w h ho hc (.slice (some ⟨g, 0, none⟩) len gc) (.int .i64 n) ((((w.alloc (.cells #[.int .i64 h.k, .int .i64 h.n, .string h.s, .slice ho h.l.length hc, .slice (some ⟨g, 0, none⟩) len gc, .int .i64 n] 37)).alloc (.cells #[.int .i64 0, .int .i64 0, .string ⟨#[]⟩, .slice none 0 0] 24)).alloc (.cells #[.int .i64 h.k, .int .i64 h.n, .string h.s, .slice ho h.l.length hc] 24)).alloc (.cells #[.int .i64 z.k, .int .i64 z.n, .string z.s, .slice y.x.ao z.l.length y.x.cap] 24)) ∧ Quad (w.heap.size + 3) (.int .i64 z.k) (.int .i64 z.n) (.string z.s) (.slice y.x.ao z.l.length y.x.cap) ((((w.alloc (.cells #[.int .i64 h.k, .int .i64 h.n, .string h.s, .slice ho h.l.length hc, .slice (some ⟨g, 0, none⟩) len gc, .int .i64 n] 37)).alloc (.cells #[.int .i64 0, .int .i64 0, .string ⟨#[]⟩, .slice none 0 0] 24)).alloc (.cells #[.int .i64 h.k, .int .i64 h.n, .string h.s, .slice ho h.l.length hc] 24)).alloc (.cells #[.int .i64 z.k, .int .i64 z.n, .string z.s, .slice y.x.ao z.l.length y.x.cap] 24))) := Lib.hid (by
    obtain ⟨a1, a2, a3, a4, a5⟩ := HN.out _ rfl
    have o := Only.alloc (fun _ => False) (((w.alloc (.cells #[.int .i64 h.k, .int .i64 h.n, .string h.s, .slice ho h.l.length hc, .slice (some ⟨g, 0, none⟩) len gc, .int .i64 n] 37)).alloc (.cells #[.int .i64 0, .int .i64 0, .string ⟨#[]⟩, .slice none 0 0] 24)).alloc (.cells #[.int .i64 h.k, .int .i64 h.n, .string h.s, .slice ho h.l.length hc] 24)) (.cells #[.int .i64 z.k, .int .i64 z.n, .string z.s, .slice y.x.ao z.l.length y.x.cap] 24)
    have hz : Quad ((((w.alloc (.cells #[.int .i64 h.k, .int .i64 h.n, .string h.s, .slice ho h.l.length hc, .slice (some ⟨g, 0, none⟩) len gc, .int .i64 n] 37)).alloc (.cells #[.int .i64 0, .int .i64 0, .string ⟨#[]⟩, .slice none 0 0] 24)).alloc (.cells #[.int .i64 h.k, .int .i64 h.n, .string h.s, .slice ho h.l.length hc] 24)).heap.size) (.int .i64 z.k) (.int .i64 z.n) (.string z.s) (.slice y.x.ao z.l.length y.x.cap) ((((w.alloc (.cells #[.int .i64 h.k, .int .i64 h.n, .string h.s, .slice ho h.l.length hc, .slice (some ⟨g, 0, none⟩) len gc, .int .i64 n] 37)).alloc (.cells #[.int .i64 0, .int .i64 0, .string ⟨#[]⟩, .slice none 0 0] 24)).alloc (.cells #[.int .i64 h.k, .int .i64 h.n, .string h.s, .slice ho h.l.length hc] 24)).alloc (.cells #[.int .i64 z.k, .int .i64 z.n, .string z.s, .slice y.x.ao z.l.length y.x.cap] 24)) := heap_alloc_new _ _
    rw [a5] at hz
    exact ⟨⟨a1.only o (fun e => e), a2.only o (fun e => e), a3.only o (fun e => e), a4.same o, by have e := Nat.lt_succ_self (w.heap.size + 3); simp [a5] at *⟩, hz⟩)
  have HLEN := Lib.hid hlen
  clear hgl hget hlq hm hr hg hs hl hz hlen oB hkz
  have HYR : Hid (Row (· < w.heap.size) w y.x.ao z.l ∧ z.Sane) := Lib.hid ⟨HY.out.2.2, HY.out.2.1⟩
  have HHR := Lib.hid (show Row (· < w.heap.size) w ho h.l from HL.out)
  by_cases hk2 : kz = 2
  · have hk2' : (kz == 2) = true := by simpa using hk2
    go_enter Try.func19, Try.ntmps19
    go_wp2_with fail
    generalize (((w.alloc (.cells #[.int .i64 h.k, .int .i64 h.n, .string h.s, .slice ho h.l.length hc, .slice (some ⟨g, 0, none⟩) len gc, .int .i64 n] 37)).alloc (.cells #[.int .i64 0, .int .i64 0, .string ⟨#[]⟩, .slice none 0 0] 24)).alloc (.cells #[.int .i64 h.k, .int .i64 h.n, .string h.s, .slice ho h.l.length hc] 24)).alloc (.cells #[.int .i64 z.k, .int .i64 z.n, .string z.s, .slice y.x.ao z.l.length y.x.cap] 24) = E4 at *
    clear y0 y1 y2 y3 y4 x0 x1 x2 x3 x4 x5 b0 HN
    refine (ratom_plain _ _).mono ?_
    rintro e w5 ⟨rfl, ho5⟩
    have HB5 := Lib.hid (HB4.out.1.only ho5 (fun k e => e.elim))
    have HQ5 := Lib.hid (HB4.out.2.only ho5 (fun e => e))
    have HT5 : Hid (Quad (w.heap.size + 3) (.int .i64 3) (.int .i64 0) (.string ⟨#[33]⟩) (.slice none 0 0) ((((w5.setCell ⟨w.heap.size + 3, 0, none⟩ (.int .i64 3)).setCell ⟨w.heap.size + 3, 1, none⟩ (.int .i64 0)).setCell ⟨w.heap.size + 3, 2, none⟩ (.string ⟨#[33]⟩)).setCell ⟨w.heap.size + 3, 3, none⟩ (.slice none 0 0)) ∧ Only (· = w.heap.size + 3) w5 ((((w5.setCell ⟨w.heap.size + 3, 0, none⟩ (.int .i64 3)).setCell ⟨w.heap.size + 3, 1, none⟩ (.int .i64 0)).setCell ⟨w.heap.size + 3, 2, none⟩ (.string ⟨#[33]⟩)).setCell ⟨w.heap.size + 3, 3, none⟩ (.slice none 0 0))) := Lib.hid (HQ5.out.set (.int .i64 3) (.int .i64 0) (.string ⟨#[33]⟩) (.slice none 0 0))
    have HB6 : Hid (BkC w h ho hc (.slice (some ⟨g, 0, none⟩) len gc) (.int .i64 n) ((((w5.setCell ⟨w.heap.size + 3, 0, none⟩ (.int .i64 3)).setCell ⟨w.heap.size + 3, 1, none⟩ (.int .i64 0)).setCell ⟨w.heap.size + 3, 2, none⟩ (.string ⟨#[33]⟩)).setCell ⟨w.heap.size + 3, 3, none⟩ (.slice none 0 0))) := Lib.hid (HB5.out.only HT5.out.2 (fun k e => by have e' : k = w.heap.size + 3 := e; omega))
    have HZC : Hid (T.mk 3 0 nCut [] = calF z) := Lib.hid (by
      unfold calF calledF
      rw [if_pos (by rw [← HKZ.out]; exact hk2)]
      rfl)
    obtain ⟨t0, t1, t2, t3⟩ := HQ5.out.cells
    obtain ⟨f0, f1, f2, f3⟩ := HQ5.out.free
    clear ho5
    go_wp2_with fail
    generalize (((w5.setCell ⟨w.heap.size + 3, 0, none⟩ (.int .i64 3)).setCell ⟨w.heap.size + 3, 1, none⟩ (.int .i64 0)).setCell ⟨w.heap.size + 3, 2, none⟩ (.string ⟨#[33]⟩)).setCell ⟨w.heap.size + 3, 3, none⟩ (.slice none 0 0) = E5 at *
    clear t0 t1 t2 t3 f0 f1 f2 f3
    obtain ⟨v0, ao0, ac0, hv0, HI0⟩ : ∃ (v0 : T) (ao0 : Option Addr) (ac0 : Nat), (Value.slice none 0 0 = .slice ao0 v0.l.length ac0) ∧ Hid (BkC w h ho hc (.slice (some ⟨g, 0, none⟩) len gc) (.int .i64 n) E5 ∧ Quad (w.heap.size + 3) (.int .i64 v0.k) (.int .i64 v0.n) (.string v0.s) (.slice ao0 v0.l.length ac0) E5 ∧ Row (ApB w E5) E5 ao0 v0.l ∧ v0.Sane ∧ v0 = calF z) := ⟨.mk 3 0 nCut [], none, 0, rfl, Lib.hid ⟨HB6.out, HT5.out.1, Row.nil _ _ _, sane_atom (by decide +kernel), HZC.out⟩⟩
    clear hv0
    go_loopw [6] (fun iv wr => ∃ (j : Nat) (v : T) (bo : Option Addr) (bc : Nat), j ≤ m ∧ iv = .int .i64 ((j : Int) - 1) ∧ Hid (BkC w h ho hc (.slice (some ⟨g, 0, none⟩) len gc) (.int .i64 n) wr ∧ Quad (w.heap.size + 3) (.int .i64 v.k) (.int .i64 v.n) (.string v.s) (.slice bo v.l.length bc) wr ∧ Row (ApB w wr) wr bo v.l ∧ v.Sane ∧ v = joinF ((gl0.drop j).map (fun x => calF x.x.t)) (calF z))) (fun iv _ => (intOf iv + 1).toNat)
    case atStart => exact ⟨m, v0, ao0, ac0, by omega, rfl, Lib.hid ⟨HI0.out.1, HI0.out.2.1, HI0.out.2.2.1, HI0.out.2.2.2.1, by
      rw [HM.out, List.drop_length]
      exact HI0.out.2.2.2.2⟩⟩
    case round =>
      obtain ⟨j, v, bo, bc, hj, rfl, hI⟩ := hrel
      rcases j with _ | p
      · have hneg : ¬ (((0 : Nat) : Int) - 1 ≥ 0) := by omega
        obtain ⟨x0, x1, x2, x3, x4, x5⟩ := hI.out.1.x.cells
        obtain ⟨b0, b1, b2, b3⟩ := hI.out.2.1.cells
        have HCO := Lib.hid (rComp_two (P := ApB w wr) ⟨#[58, 45]⟩ h v ho bo hc bc wr wr.heap.size rfl (by decide +kernel) HS.out ((HHR.out.only hI.out.1.o (fun _ h => h) (fun _ _ e => e)).mono (fun q hq => ⟨.inl hq, Nat.lt_of_lt_of_le hq hI.out.1.o.size⟩)) hI.out.2.2.2.1 hI.out.2.2.1 (fun q hq => hq.2))
        go_wp2_with fail
        refine HCO.out.mono ?_
        rintro e w2 ⟨a2, c2, rfl, hr2, ho2⟩
        have HU : Hid (T.mk 4 0 nIf [h, joinF (gl0.map (fun x => calF x.x.t)) (calF z)] = T.mk 4 0 nIf [h, v]) := Lib.hid (by rw [hI.out.2.2.2.2, List.drop_zero])
        have HB2 := Lib.hid (hI.out.1.only ho2 (fun k e => e.elim))
        have HT2 := Lib.hid (HB2.out.t.set (.int .i64 4) (.int .i64 0) (.string ⟨#[58, 45]⟩) (.slice a2 2 c2))
        have HZ3 := Lib.hid (HB2.out.z.only HT2.out.2 (fun e => by omega))
        have HO3 := Lib.hid (Only.cut HB2.out.o HT2.out.2 (fun k e => by omega))
        have hap : ∀ q, NewP (ApB w wr) wr w2 q → (q < w.heap.size ∨ w.heap.size + 4 ≤ q) ∧ q < w2.heap.size := fun q hq => by
          have h1 := hI.out.1.n
          have h2 := ho2.size
          rcases hq with hq | hq
          · exact ⟨hq.1, Nat.lt_of_lt_of_le hq.2 h2⟩
          · exact ⟨.inr (by omega), hq.2⟩
        have HR3 := Lib.hid ((hr2.only HT2.out.2 (fun q hq => (hap q hq).2) (fun q hq e => by have := (hap q hq).1; omega)).mono hap)
        have HUS : Hid ((T.mk 4 0 nIf [h, v]).Sane ∧ (T.mk 4 0 nIf [h, v]).size ≤ 900000) := Lib.hid ⟨sane_comp (by decide +kernel) (by show 2 ≤ maxLen; exact small_lit (by omega)), by rw [← HU.out]; exact HZZ.out⟩
        have HCK := Lib.hid (rCheck_any (T.mk 4 0 nIf [h, v]) _ a2 c2 (HR3.out.mono (fun q hq => Nat.lt_of_lt_of_le hq.2 HT2.out.2.size)) HUS.out.1 (by have := depth_le_size (T.mk 4 0 nIf [h, v]); have := HUS.out.2; omega) (by have := HUS.out.2; omega))
        obtain ⟨t0, t1, t2, t3⟩ := HB2.out.t.cells
        obtain ⟨f0, f1, f2, f3⟩ := HB2.out.t.free
        obtain ⟨u0, u1, u2, u3⟩ := HT2.out.1.cells
        clear hr2 ho2 hap x0 x1 x2 x3 x4 x5 b0 b1 b2 b3 HCO
        go_wp2_with fail
        refine HCK.out.mono ?_
        rintro e w4 ⟨rfl, ho4⟩
        have HZ4 := Lib.hid (HZ3.out.only ho4 (fun e => e))
        have HT4 := Lib.hid (HT2.out.1.only ho4 (fun e => e))
        have HO4 := Lib.hid (HO3.out.same ho4)
        have HR4 := Lib.hid (((HR3.out.mono (fun q hq => (⟨hq.1, Nat.lt_of_lt_of_le hq.2 HT2.out.2.size⟩ : (q < w.heap.size ∨ w.heap.size + 4 ≤ q) ∧ q < (quadW w2 (w.heap.size + 2) (.int .i64 4) (.int .i64 0) (.string ⟨#[58, 45]⟩) (.slice a2 2 c2)).heap.size))).only ho4 (fun q hq => hq.2) (fun _ _ e => e)).mono (fun q hq => (⟨hq.1, Nat.lt_of_lt_of_le hq.2 ho4.size⟩ : (q < w.heap.size ∨ w.heap.size + 4 ≤ q) ∧ q < w4.heap.size)))
        clear ho4 t0 t1 t2 t3 f0 f1 f2 f3 u0 u1 u2 u3 HCK
        obtain ⟨t0, t1, t2, t3⟩ := HT4.out.cells
        obtain ⟨z0, z1, z2, z3⟩ := HZ4.out.cells
        obtain ⟨f0, f1, f2, f3⟩ := HZ4.out.free
        by_cases hc0 : rcheckF (T.mk 4 0 nIf [h, v]) = 0
        · have hcn : (rcheckF (T.mk 4 0 nIf [h, v]) != 0) = false := by simpa using hc0
          have hcl : clF (T.mk 4 0 nIf [h, v]) = T.mk 4 0 nIf [h, v] := by unfold clF; rw [if_pos hc0]
          have HSF := Lib.hid (HZ4.out.set (.int .i64 4) (.int .i64 0) (.string ⟨#[58, 45]⟩) (.slice a2 2 c2))
          go_wp2_with fail
          have hcc := HSF.out.1.cells
          refine bodyPost_ret (v := .agg #[.int .i64 4, .int .i64 0, .string ⟨#[58, 45]⟩, .slice a2 2 c2]) (results_term rfl _ _ (w.heap.size + 1) _ _ _ _ rfl hcc.1 hcc.2.1 hcc.2.2.1 hcc.2.2.2) rfl ?_
          rw [HU.out, hcl]
          exact ⟨a2, c2, rfl, (HR4.out.only HSF.out.2 (fun q hq => hq.2) (fun q hq e => by have := hq.1; omega)).mono (fun q hq => Nat.lt_of_lt_of_le hq.2 HSF.out.2.size), Only.cut HO4.out HSF.out.2 (fun k e => by omega)⟩
        · have hcn : (rcheckF (T.mk 4 0 nIf [h, v]) != 0) = true := by simpa using hc0
          have hcl : clF (T.mk 4 0 nIf [h, v]) = zeroT := by unfold clF; rw [if_neg hc0]
          have HSF := Lib.hid (HZ4.out.set (.int .i64 0) (.int .i64 0) (.string ⟨#[]⟩) (.slice none 0 0))
          go_wp2_with fail
          have hcc := HSF.out.1.cells
          refine bodyPost_ret (v := .agg #[.int .i64 0, .int .i64 0, .string ⟨#[]⟩, .slice none 0 0]) (results_term rfl _ _ (w.heap.size + 1) _ _ _ _ rfl hcc.1 hcc.2.1 hcc.2.2.1 hcc.2.2.2) rfl ?_
          rw [HU.out, hcl]
          exact ⟨none, 0, rfl, Row.nil _ _ _, Only.cut HO4.out HSF.out.2 (fun k e => by omega)⟩
      · rw [show (((p + 1 : Nat) : Int) - 1) = (p : Int) by omega]
        obtain ⟨x, hx⟩ : ∃ x, gl0[p]? = some x := ⟨_, List.getElem?_eq_getElem (by rw [← HM.out]; omega)⟩
        have hgx : gl[p]? = some x := by rw [HGL.out, List.getElem?_append_left (by rw [← HM.out]; omega)]; exact hx
        have gx := HGG.out x (List.mem_of_getElem? hgx)
        have hdrop : gl0.drop p = x :: gl0.drop (p + 1) := (List.drop_eq_getElem_cons (by rw [← HM.out]; omega)).trans (by rw [(List.getElem?_eq_some_iff.1 hx).2])
        have oX : Only (fun _ => False) wr (wr.alloc (.cells #[.int .i64 x.x.t.k, .int .i64 x.x.t.n, .string x.x.t.s, .slice x.x.ao x.x.t.l.length x.x.cap] 24)) := Only.alloc _ _ _
        have hc1 := HGC.out wr hI.out.1.o p x hgx
        have hc2 := (HGC.out _ (hI.out.1.o.same oX) p x hgx).1
        obtain ⟨_, y1, y2, y3, y4⟩ := hc1
        replace y2 : World.cell? _ ⟨g, p * 5 + 1 + 1, none⟩ = some (.int .i64 x.x.t.n) := y2
        replace y3 : World.cell? _ ⟨g, p * 5 + 1 + 2, none⟩ = some (.string x.x.t.s) := y3
        replace y4 : World.cell? _ ⟨g, p * 5 + 1 + 3, none⟩ = some (.slice x.x.ao x.x.t.l.length x.x.cap) := y4
        have hge : (p : Int) ≥ 0 := by omega
        have hp5 : (p : Int) < (len : Int) := by have := HLEN.out; omega
        have hp4 : (0 : Int) ≤ (p : Int) := by omega
        have hp7 : ((p : Int)).toNat = p := by omega
        have hwi : IntKind.i64.wrap ((p : Int) - 1) = (p : Int) - 1 := IntWalk.i64_in _ (by omega)
        obtain ⟨x0, x1, x2, x3, x4, x5⟩ := hI.out.1.x.cells
        obtain ⟨b0, b1, b2, b3⟩ := hI.out.2.1.cells
        obtain ⟨d0, d1, d2, d3, d4, d5⟩ := (hI.out.1.only oX (fun _ e => e.elim)).x.cells
        obtain ⟨e0, e1, e2, e3⟩ := (hI.out.2.1.only oX (fun e => e)).cells
        by_cases hxk : x.k = 2
        · have hxk' : (x.k == 2) = true := by simpa using hxk
          clear b0 b1 b2 b3 e0 e1 e2 e3
          go_wp2_with fail
          refine (ratom_plain _ _).mono ?_
          rintro e w1 ⟨rfl, ho1⟩
          have HG1 : Hid (Quad wr.heap.size (.int .i64 x.x.t.k) (.int .i64 x.x.t.n) (.string x.x.t.s) (.slice x.x.ao x.x.t.l.length x.x.cap) w1) := Lib.hid (Quad.only (b := wr.heap.size) (heap_alloc_new wr _) ho1 (fun e => e))
          have HT1 : Hid (Quad wr.heap.size (.int .i64 3) (.int .i64 0) (.string ⟨#[33]⟩) (.slice none 0 0) ((((w1.setCell ⟨wr.heap.size, 0, none⟩ (.int .i64 3)).setCell ⟨wr.heap.size, 1, none⟩ (.int .i64 0)).setCell ⟨wr.heap.size, 2, none⟩ (.string ⟨#[33]⟩)).setCell ⟨wr.heap.size, 3, none⟩ (.slice none 0 0)) ∧ Only (· = wr.heap.size) w1 ((((w1.setCell ⟨wr.heap.size, 0, none⟩ (.int .i64 3)).setCell ⟨wr.heap.size, 1, none⟩ (.int .i64 0)).setCell ⟨wr.heap.size, 2, none⟩ (.string ⟨#[33]⟩)).setCell ⟨wr.heap.size, 3, none⟩ (.slice none 0 0))) := Lib.hid (HG1.out.set (.int .i64 3) (.int .i64 0) (.string ⟨#[33]⟩) (.slice none 0 0))
          have HO1 : Hid (Only (fun _ => False) wr ((((w1.setCell ⟨wr.heap.size, 0, none⟩ (.int .i64 3)).setCell ⟨wr.heap.size, 1, none⟩ (.int .i64 0)).setCell ⟨wr.heap.size, 2, none⟩ (.string ⟨#[33]⟩)).setCell ⟨wr.heap.size, 3, none⟩ (.slice none 0 0))) := Lib.hid (Only.cut (oX.same ho1) HT1.out.2 (fun k e => by have e' : k = wr.heap.size := e; omega))
          have HWS : Hid (((((w1.setCell ⟨wr.heap.size, 0, none⟩ (.int .i64 3)).setCell ⟨wr.heap.size, 1, none⟩ (.int .i64 0)).setCell ⟨wr.heap.size, 2, none⟩ (.string ⟨#[33]⟩)).setCell ⟨wr.heap.size, 3, none⟩ (.slice none 0 0)).heap.size = w1.heap.size) := Lib.hid (by simp)
          have HXX := Lib.hid (hI.out.2.1.only HO1.out (fun e => e))
          clear d0 d1 d2 d3 d4 d5 y1 y2 y3 y4 hc2 ho1 x0 x1 x2 x3 x4 x5
          obtain ⟨b0, b1, b2, b3⟩ := HXX.out.cells
          obtain ⟨e0, e1, e2, e3⟩ := HT1.out.1.cells
          obtain ⟨g0, g1, g2, g3⟩ := HG1.out.cells
          obtain ⟨f0, f1, f2, f3⟩ := HG1.out.free
          go_wp2_with fail
          generalize (((w1.setCell ⟨wr.heap.size, 0, none⟩ (.int .i64 3)).setCell ⟨wr.heap.size, 1, none⟩ (.int .i64 0)).setCell ⟨wr.heap.size, 2, none⟩ (.string ⟨#[33]⟩)).setCell ⟨wr.heap.size, 3, none⟩ (.slice none 0 0) = W1 at *
          have HW := Lib.hid (hI.out.1.o.same HO1.out)
          refine (rComp_two (P := ApB w W1) ⟨#[44]⟩ (T.mk 3 0 nCut []) v none bo 0 bc W1 _ HWS.out (by decide +kernel) (sane_atom (by decide +kernel)) (Row.nil _ _ _) hI.out.2.2.2.1 ((hI.out.2.2.1.only HO1.out (fun q hq => hq.2) (fun _ _ e => e)).mono (fun q hq => ⟨hq.1, Nat.lt_of_lt_of_le hq.2 HO1.out.size⟩)) (fun q hq => hq.2)).mono ?_
          rintro e w2 ⟨a2, c2, rfl, hr2, ho2⟩
          have o2 := HO1.out.same ho2
          have HB2 := Lib.hid (hI.out.1.only o2 (fun k e => e.elim))
          have HQ2 := Lib.hid (hI.out.2.1.only o2 (fun e => e))
          have HT2 := Lib.hid (HQ2.out.set (.int .i64 4) (.int .i64 0) (.string ⟨#[44]⟩) (.slice a2 2 c2))
          have hap : ∀ q, NewP (ApB w W1) W1 w2 q → (q < w.heap.size ∨ w.heap.size + 4 ≤ q) ∧ q < w2.heap.size := fun q hq => by
            have h1 := (hI.out.1.only HO1.out (fun k e => e.elim)).n
            have h2 := ho2.size
            rcases hq with hq | hq
            · exact ⟨hq.1, Nat.lt_of_lt_of_le hq.2 h2⟩
            · exact ⟨.inr (by omega), hq.2⟩
          have HR3 := Lib.hid ((hr2.only HT2.out.2 (fun q hq => (hap q hq).2) (fun q hq e => by have := (hap q hq).1; omega)).mono (fun q hq => (⟨(hap q hq).1, Nat.lt_of_lt_of_le (hap q hq).2 HT2.out.2.size⟩ : ApB w (quadW w2 (w.heap.size + 3) (.int .i64 4) (.int .i64 0) (.string ⟨#[44]⟩) (.slice a2 2 c2)) q)))
          have HVN : Hid (T.mk 4 0 nComma [(T.mk 3 0 nCut []), v] = joinF ((gl0.drop p).map (fun x => calF x.x.t)) (calF z)) := Lib.hid (by
            rw [hdrop, List.map_cons, joinF, ← hI.out.2.2.2.2]
            have : calF x.x.t = (T.mk 3 0 nCut []) := by unfold calF calledF; rw [if_pos (by rw [← gx.1]; exact hxk)]; rfl
            rw [this])
          clear b0 b1 b2 b3 e0 e1 e2 e3 g0 g1 g2 g3 f0 f1 f2 f3 hr2 ho2 hap
          obtain ⟨t0, t1, t2, t3⟩ := HQ2.out.cells
          obtain ⟨f0, f1, f2, f3⟩ := HQ2.out.free
          go_wp2_with fail
          go_roundw
          case rel =>
            exact ⟨p, T.mk 4 0 nComma [(T.mk 3 0 nCut []), v], a2, c2, by omega, by first | rfl | go_num, Lib.hid ⟨HB2.out.only HT2.out.2 (fun k e => by have e' : k = w.heap.size + 3 := e; omega), HT2.out.1, HR3.out, sane_comp (by decide +kernel) (by show 2 ≤ maxLen; exact small_lit (by omega)), HVN.out⟩⟩
          case measure => simp [intOf]
        · have hxk' : (x.k == 2) = false := by simpa using hxk
          go_wp2_with fail
          have HO1 := Lib.hid oX
          have HWS : Hid ((wr.alloc (.cells #[.int .i64 x.x.t.k, .int .i64 x.x.t.n, .string x.x.t.s, .slice x.x.ao x.x.t.l.length x.x.cap] 24)).heap.size = wr.heap.size + 1) := Lib.hid (by simp)
          clear oX hc2
          generalize wr.alloc (.cells #[.int .i64 x.x.t.k, .int .i64 x.x.t.n, .string x.x.t.s, .slice x.x.ao x.x.t.l.length x.x.cap] 24) = W1 at *
          have HW := Lib.hid (hI.out.1.o.same HO1.out)
          refine (rComp_two (P := ApB w W1) ⟨#[44]⟩ x.x.t v x.x.ao bo x.x.cap bc W1 _ HWS.out (by decide +kernel) gx.2.1 ((gx.2.2.only HW.out (fun _ h => h) (fun _ _ e => e)).mono (fun q hq => ⟨.inl hq, Nat.lt_of_lt_of_le hq HW.out.size⟩)) hI.out.2.2.2.1 ((hI.out.2.2.1.only HO1.out (fun q hq => hq.2) (fun _ _ e => e)).mono (fun q hq => ⟨hq.1, Nat.lt_of_lt_of_le hq.2 HO1.out.size⟩)) (fun q hq => hq.2)).mono ?_
          rintro e w2 ⟨a2, c2, rfl, hr2, ho2⟩
          have o2 := HO1.out.same ho2
          have HB2 := Lib.hid (hI.out.1.only o2 (fun k e => e.elim))
          have HQ2 := Lib.hid (hI.out.2.1.only o2 (fun e => e))
          have HT2 := Lib.hid (HQ2.out.set (.int .i64 4) (.int .i64 0) (.string ⟨#[44]⟩) (.slice a2 2 c2))
          have hap : ∀ q, NewP (ApB w W1) W1 w2 q → (q < w.heap.size ∨ w.heap.size + 4 ≤ q) ∧ q < w2.heap.size := fun q hq => by
            have h1 := (hI.out.1.only HO1.out (fun k e => e.elim)).n
            have h2 := ho2.size
            rcases hq with hq | hq
            · exact ⟨hq.1, Nat.lt_of_lt_of_le hq.2 h2⟩
            · exact ⟨.inr (by omega), hq.2⟩
          have HR3 := Lib.hid ((hr2.only HT2.out.2 (fun q hq => (hap q hq).2) (fun q hq e => by have := (hap q hq).1; omega)).mono (fun q hq => (⟨(hap q hq).1, Nat.lt_of_lt_of_le (hap q hq).2 HT2.out.2.size⟩ : ApB w (quadW w2 (w.heap.size + 3) (.int .i64 4) (.int .i64 0) (.string ⟨#[44]⟩) (.slice a2 2 c2)) q)))
          have HVN : Hid (T.mk 4 0 nComma [x.x.t, v] = joinF ((gl0.drop p).map (fun x => calF x.x.t)) (calF z)) := Lib.hid (by
            rw [hdrop, List.map_cons, joinF, ← hI.out.2.2.2.2]
            have : calF x.x.t = x.x.t := by unfold calF calledF; rw [if_neg (by rw [← gx.1]; exact hxk)]
            rw [this])
          clear x0 x1 x2 x3 x4 x5 b0 b1 b2 b3 d0 d1 d2 d3 d4 d5 e0 e1 e2 e3 y1 y2 y3 y4 hr2 ho2 hap
          obtain ⟨t0, t1, t2, t3⟩ := HQ2.out.cells
          obtain ⟨f0, f1, f2, f3⟩ := HQ2.out.free
          go_wp2_with fail
          go_roundw
          case rel =>
            exact ⟨p, T.mk 4 0 nComma [x.x.t, v], a2, c2, by omega, by first | rfl | go_num, Lib.hid ⟨HB2.out.only HT2.out.2 (fun k e => by have e' : k = w.heap.size + 3 := e; omega), HT2.out.1, HR3.out, sane_comp (by decide +kernel) (by show 2 ≤ maxLen; exact small_lit (by omega)), HVN.out⟩⟩
          case measure => simp [intOf]
  · have hk2' : (kz == 2) = false := by simpa using hk2
    go_enter Try.func19, Try.ntmps19
    go_wp2_with fail
    generalize (((w.alloc (.cells #[.int .i64 h.k, .int .i64 h.n, .string h.s, .slice ho h.l.length hc, .slice (some ⟨g, 0, none⟩) len gc, .int .i64 n] 37)).alloc (.cells #[.int .i64 0, .int .i64 0, .string ⟨#[]⟩, .slice none 0 0] 24)).alloc (.cells #[.int .i64 h.k, .int .i64 h.n, .string h.s, .slice ho h.l.length hc] 24)).alloc (.cells #[.int .i64 z.k, .int .i64 z.n, .string z.s, .slice y.x.ao z.l.length y.x.cap] 24) = E4 at *
    clear y0 y1 y2 y3 y4 x0 x1 x2 x3 x4 x5 b0 HN
    have HZC : Hid (z = calF z) := Lib.hid (by
      unfold calF calledF
      rw [if_neg (by rw [← HKZ.out]; exact hk2)])
    obtain ⟨v0, ao0, ac0, HI0⟩ : ∃ (v0 : T) (ao0 : Option Addr) (ac0 : Nat), Hid (BkC w h ho hc (.slice (some ⟨g, 0, none⟩) len gc) (.int .i64 n) E4 ∧ Quad (w.heap.size + 3) (.int .i64 v0.k) (.int .i64 v0.n) (.string v0.s) (.slice ao0 v0.l.length ac0) E4 ∧ Row (ApB w E4) E4 ao0 v0.l ∧ v0.Sane ∧ v0 = calF z) := ⟨z, y.x.ao, y.x.cap, Lib.hid ⟨HB4.out.1, HB4.out.2, (HYR.out.1.only HB4.out.1.o (fun _ h => h) (fun _ _ e => e)).mono (fun q hq => ⟨.inl hq, Nat.lt_of_lt_of_le hq HB4.out.1.o.size⟩), HYR.out.2, HZC.out⟩⟩
    go_loopw [6] (fun iv wr => ∃ (j : Nat) (v : T) (bo : Option Addr) (bc : Nat), j ≤ m ∧ iv = .int .i64 ((j : Int) - 1) ∧ Hid (BkC w h ho hc (.slice (some ⟨g, 0, none⟩) len gc) (.int .i64 n) wr ∧ Quad (w.heap.size + 3) (.int .i64 v.k) (.int .i64 v.n) (.string v.s) (.slice bo v.l.length bc) wr ∧ Row (ApB w wr) wr bo v.l ∧ v.Sane ∧ v = joinF ((gl0.drop j).map (fun x => calF x.x.t)) (calF z))) (fun iv _ => (intOf iv + 1).toNat)
    case atStart => exact ⟨m, v0, ao0, ac0, by omega, rfl, Lib.hid ⟨HI0.out.1, HI0.out.2.1, HI0.out.2.2.1, HI0.out.2.2.2.1, by
      rw [HM.out, List.drop_length]
      exact HI0.out.2.2.2.2⟩⟩
    case round =>
      obtain ⟨j, v, bo, bc, hj, rfl, hI⟩ := hrel
      rcases j with _ | p
      · have hneg : ¬ (((0 : Nat) : Int) - 1 ≥ 0) := by omega
        obtain ⟨x0, x1, x2, x3, x4, x5⟩ := hI.out.1.x.cells
        obtain ⟨b0, b1, b2, b3⟩ := hI.out.2.1.cells
        have HCO := Lib.hid (rComp_two (P := ApB w wr) ⟨#[58, 45]⟩ h v ho bo hc bc wr wr.heap.size rfl (by decide +kernel) HS.out ((HHR.out.only hI.out.1.o (fun _ h => h) (fun _ _ e => e)).mono (fun q hq => ⟨.inl hq, Nat.lt_of_lt_of_le hq hI.out.1.o.size⟩)) hI.out.2.2.2.1 hI.out.2.2.1 (fun q hq => hq.2))
        go_wp2_with fail
        refine HCO.out.mono ?_
        rintro e w2 ⟨a2, c2, rfl, hr2, ho2⟩
        have HU : Hid (T.mk 4 0 nIf [h, joinF (gl0.map (fun x => calF x.x.t)) (calF z)] = T.mk 4 0 nIf [h, v]) := Lib.hid (by rw [hI.out.2.2.2.2, List.drop_zero])
        have HB2 := Lib.hid (hI.out.1.only ho2 (fun k e => e.elim))
        have HT2 := Lib.hid (HB2.out.t.set (.int .i64 4) (.int .i64 0) (.string ⟨#[58, 45]⟩) (.slice a2 2 c2))
        have HZ3 := Lib.hid (HB2.out.z.only HT2.out.2 (fun e => by omega))
        have HO3 := Lib.hid (Only.cut HB2.out.o HT2.out.2 (fun k e => by omega))
        have hap : ∀ q, NewP (ApB w wr) wr w2 q → (q < w.heap.size ∨ w.heap.size + 4 ≤ q) ∧ q < w2.heap.size := fun q hq => by
          have h1 := hI.out.1.n
          have h2 := ho2.size
          rcases hq with hq | hq
          · exact ⟨hq.1, Nat.lt_of_lt_of_le hq.2 h2⟩
          · exact ⟨.inr (by omega), hq.2⟩
        have HR3 := Lib.hid ((hr2.only HT2.out.2 (fun q hq => (hap q hq).2) (fun q hq e => by have := (hap q hq).1; omega)).mono hap)
        have HUS : Hid ((T.mk 4 0 nIf [h, v]).Sane ∧ (T.mk 4 0 nIf [h, v]).size ≤ 900000) := Lib.hid ⟨sane_comp (by decide +kernel) (by show 2 ≤ maxLen; exact small_lit (by omega)), by rw [← HU.out]; exact HZZ.out⟩
        have HCK := Lib.hid (rCheck_any (T.mk 4 0 nIf [h, v]) _ a2 c2 (HR3.out.mono (fun q hq => Nat.lt_of_lt_of_le hq.2 HT2.out.2.size)) HUS.out.1 (by have := depth_le_size (T.mk 4 0 nIf [h, v]); have := HUS.out.2; omega) (by have := HUS.out.2; omega))
        obtain ⟨t0, t1, t2, t3⟩ := HB2.out.t.cells
        obtain ⟨f0, f1, f2, f3⟩ := HB2.out.t.free
        obtain ⟨u0, u1, u2, u3⟩ := HT2.out.1.cells
        clear hr2 ho2 hap x0 x1 x2 x3 x4 x5 b0 b1 b2 b3 HCO
        go_wp2_with fail
        refine HCK.out.mono ?_
        rintro e w4 ⟨rfl, ho4⟩
        have HZ4 := Lib.hid (HZ3.out.only ho4 (fun e => e))
        have HT4 := Lib.hid (HT2.out.1.only ho4 (fun e => e))
        have HO4 := Lib.hid (HO3.out.same ho4)
        have HR4 := Lib.hid (((HR3.out.mono (fun q hq => (⟨hq.1, Nat.lt_of_lt_of_le hq.2 HT2.out.2.size⟩ : (q < w.heap.size ∨ w.heap.size + 4 ≤ q) ∧ q < (quadW w2 (w.heap.size + 2) (.int .i64 4) (.int .i64 0) (.string ⟨#[58, 45]⟩) (.slice a2 2 c2)).heap.size))).only ho4 (fun q hq => hq.2) (fun _ _ e => e)).mono (fun q hq => (⟨hq.1, Nat.lt_of_lt_of_le hq.2 ho4.size⟩ : (q < w.heap.size ∨ w.heap.size + 4 ≤ q) ∧ q < w4.heap.size)))
        clear ho4 t0 t1 t2 t3 f0 f1 f2 f3 u0 u1 u2 u3 HCK
        obtain ⟨t0, t1, t2, t3⟩ := HT4.out.cells
        obtain ⟨z0, z1, z2, z3⟩ := HZ4.out.cells
        obtain ⟨f0, f1, f2, f3⟩ := HZ4.out.free
        by_cases hc0 : rcheckF (T.mk 4 0 nIf [h, v]) = 0
        · have hcn : (rcheckF (T.mk 4 0 nIf [h, v]) != 0) = false := by simpa using hc0
          have hcl : clF (T.mk 4 0 nIf [h, v]) = T.mk 4 0 nIf [h, v] := by unfold clF; rw [if_pos hc0]
          have HSF := Lib.hid (HZ4.out.set (.int .i64 4) (.int .i64 0) (.string ⟨#[58, 45]⟩) (.slice a2 2 c2))
          go_wp2_with fail
          have hcc := HSF.out.1.cells
          refine bodyPost_ret (v := .agg #[.int .i64 4, .int .i64 0, .string ⟨#[58, 45]⟩, .slice a2 2 c2]) (results_term rfl _ _ (w.heap.size + 1) _ _ _ _ rfl hcc.1 hcc.2.1 hcc.2.2.1 hcc.2.2.2) rfl ?_
          rw [HU.out, hcl]
          exact ⟨a2, c2, rfl, (HR4.out.only HSF.out.2 (fun q hq => hq.2) (fun q hq e => by have := hq.1; omega)).mono (fun q hq => Nat.lt_of_lt_of_le hq.2 HSF.out.2.size), Only.cut HO4.out HSF.out.2 (fun k e => by omega)⟩
        · have hcn : (rcheckF (T.mk 4 0 nIf [h, v]) != 0) = true := by simpa using hc0
          have hcl : clF (T.mk 4 0 nIf [h, v]) = zeroT := by unfold clF; rw [if_neg hc0]
          have HSF := Lib.hid (HZ4.out.set (.int .i64 0) (.int .i64 0) (.string ⟨#[]⟩) (.slice none 0 0))
          go_wp2_with fail
          have hcc := HSF.out.1.cells
          refine bodyPost_ret (v := .agg #[.int .i64 0, .int .i64 0, .string ⟨#[]⟩, .slice none 0 0]) (results_term rfl _ _ (w.heap.size + 1) _ _ _ _ rfl hcc.1 hcc.2.1 hcc.2.2.1 hcc.2.2.2) rfl ?_
          rw [HU.out, hcl]
          exact ⟨none, 0, rfl, Row.nil _ _ _, Only.cut HO4.out HSF.out.2 (fun k e => by omega)⟩
      · rw [show (((p + 1 : Nat) : Int) - 1) = (p : Int) by omega]
        obtain ⟨x, hx⟩ : ∃ x, gl0[p]? = some x := ⟨_, List.getElem?_eq_getElem (by rw [← HM.out]; omega)⟩
        have hgx : gl[p]? = some x := by rw [HGL.out, List.getElem?_append_left (by rw [← HM.out]; omega)]; exact hx
        have gx := HGG.out x (List.mem_of_getElem? hgx)
        have hdrop : gl0.drop p = x :: gl0.drop (p + 1) := (List.drop_eq_getElem_cons (by rw [← HM.out]; omega)).trans (by rw [(List.getElem?_eq_some_iff.1 hx).2])
        have oX : Only (fun _ => False) wr (wr.alloc (.cells #[.int .i64 x.x.t.k, .int .i64 x.x.t.n, .string x.x.t.s, .slice x.x.ao x.x.t.l.length x.x.cap] 24)) := Only.alloc _ _ _
        have hc1 := HGC.out wr hI.out.1.o p x hgx
        have hc2 := (HGC.out _ (hI.out.1.o.same oX) p x hgx).1
        obtain ⟨_, y1, y2, y3, y4⟩ := hc1
        replace y2 : World.cell? _ ⟨g, p * 5 + 1 + 1, none⟩ = some (.int .i64 x.x.t.n) := y2
        replace y3 : World.cell? _ ⟨g, p * 5 + 1 + 2, none⟩ = some (.string x.x.t.s) := y3
        replace y4 : World.cell? _ ⟨g, p * 5 + 1 + 3, none⟩ = some (.slice x.x.ao x.x.t.l.length x.x.cap) := y4
        have hge : (p : Int) ≥ 0 := by omega
        have hp5 : (p : Int) < (len : Int) := by have := HLEN.out; omega
        have hp4 : (0 : Int) ≤ (p : Int) := by omega
        have hp7 : ((p : Int)).toNat = p := by omega
        have hwi : IntKind.i64.wrap ((p : Int) - 1) = (p : Int) - 1 := IntWalk.i64_in _ (by omega)
        obtain ⟨x0, x1, x2, x3, x4, x5⟩ := hI.out.1.x.cells
        obtain ⟨b0, b1, b2, b3⟩ := hI.out.2.1.cells
        obtain ⟨d0, d1, d2, d3, d4, d5⟩ := (hI.out.1.only oX (fun _ e => e.elim)).x.cells
        obtain ⟨e0, e1, e2, e3⟩ := (hI.out.2.1.only oX (fun e => e)).cells
        by_cases hxk : x.k = 2
        · have hxk' : (x.k == 2) = true := by simpa using hxk
          clear b0 b1 b2 b3 e0 e1 e2 e3
          go_wp2_with fail
          refine (ratom_plain _ _).mono ?_
          rintro e w1 ⟨rfl, ho1⟩
          have HG1 : Hid (Quad wr.heap.size (.int .i64 x.x.t.k) (.int .i64 x.x.t.n) (.string x.x.t.s) (.slice x.x.ao x.x.t.l.length x.x.cap) w1) := Lib.hid (Quad.only (b := wr.heap.size) (heap_alloc_new wr _) ho1 (fun e => e))
          have HT1 : Hid (Quad wr.heap.size (.int .i64 3) (.int .i64 0) (.string ⟨#[33]⟩) (.slice none 0 0) ((((w1.setCell ⟨wr.heap.size, 0, none⟩ (.int .i64 3)).setCell ⟨wr.heap.size, 1, none⟩ (.int .i64 0)).setCell ⟨wr.heap.size, 2, none⟩ (.string ⟨#[33]⟩)).setCell ⟨wr.heap.size, 3, none⟩ (.slice none 0 0)) ∧ Only (· = wr.heap.size) w1 ((((w1.setCell ⟨wr.heap.size, 0, none⟩ (.int .i64 3)).setCell ⟨wr.heap.size, 1, none⟩ (.int .i64 0)).setCell ⟨wr.heap.size, 2, none⟩ (.string ⟨#[33]⟩)).setCell ⟨wr.heap.size, 3, none⟩ (.slice none 0 0))) := Lib.hid (HG1.out.set (.int .i64 3) (.int .i64 0) (.string ⟨#[33]⟩) (.slice none 0 0))
          have HO1 : Hid (Only (fun _ => False) wr ((((w1.setCell ⟨wr.heap.size, 0, none⟩ (.int .i64 3)).setCell ⟨wr.heap.size, 1, none⟩ (.int .i64 0)).setCell ⟨wr.heap.size, 2, none⟩ (.string ⟨#[33]⟩)).setCell ⟨wr.heap.size, 3, none⟩ (.slice none 0 0))) := Lib.hid (Only.cut (oX.same ho1) HT1.out.2 (fun k e => by have e' : k = wr.heap.size := e; omega))
          have HWS : Hid (((((w1.setCell ⟨wr.heap.size, 0, none⟩ (.int .i64 3)).setCell ⟨wr.heap.size, 1, none⟩ (.int .i64 0)).setCell ⟨wr.heap.size, 2, none⟩ (.string ⟨#[33]⟩)).setCell ⟨wr.heap.size, 3, none⟩ (.slice none 0 0)).heap.size = w1.heap.size) := Lib.hid (by simp)
          have HXX := Lib.hid (hI.out.2.1.only HO1.out (fun e => e))
          clear d0 d1 d2 d3 d4 d5 y1 y2 y3 y4 hc2 ho1 x0 x1 x2 x3 x4 x5
          obtain ⟨b0, b1, b2, b3⟩ := HXX.out.cells
          obtain ⟨e0, e1, e2, e3⟩ := HT1.out.1.cells
          obtain ⟨g0, g1, g2, g3⟩ := HG1.out.cells
          obtain ⟨f0, f1, f2, f3⟩ := HG1.out.free
          go_wp2_with fail
          generalize (((w1.setCell ⟨wr.heap.size, 0, none⟩ (.int .i64 3)).setCell ⟨wr.heap.size, 1, none⟩ (.int .i64 0)).setCell ⟨wr.heap.size, 2, none⟩ (.string ⟨#[33]⟩)).setCell ⟨wr.heap.size, 3, none⟩ (.slice none 0 0) = W1 at *
          have HW := Lib.hid (hI.out.1.o.same HO1.out)
          refine (rComp_two (P := ApB w W1) ⟨#[44]⟩ (T.mk 3 0 nCut []) v none bo 0 bc W1 _ HWS.out (by decide +kernel) (sane_atom (by decide +kernel)) (Row.nil _ _ _) hI.out.2.2.2.1 ((hI.out.2.2.1.only HO1.out (fun q hq => hq.2) (fun _ _ e => e)).mono (fun q hq => ⟨hq.1, Nat.lt_of_lt_of_le hq.2 HO1.out.size⟩)) (fun q hq => hq.2)).mono ?_
          rintro e w2 ⟨a2, c2, rfl, hr2, ho2⟩
          have o2 := HO1.out.same ho2
          have HB2 := Lib.hid (hI.out.1.only o2 (fun k e => e.elim))
          have HQ2 := Lib.hid (hI.out.2.1.only o2 (fun e => e))
          have HT2 := Lib.hid (HQ2.out.set (.int .i64 4) (.int .i64 0) (.string ⟨#[44]⟩) (.slice a2 2 c2))
          have hap : ∀ q, NewP (ApB w W1) W1 w2 q → (q < w.heap.size ∨ w.heap.size + 4 ≤ q) ∧ q < w2.heap.size := fun q hq => by
            have h1 := (hI.out.1.only HO1.out (fun k e => e.elim)).n
            have h2 := ho2.size
            rcases hq with hq | hq
            · exact ⟨hq.1, Nat.lt_of_lt_of_le hq.2 h2⟩
            · exact ⟨.inr (by omega), hq.2⟩
          have HR3 := Lib.hid ((hr2.only HT2.out.2 (fun q hq => (hap q hq).2) (fun q hq e => by have := (hap q hq).1; omega)).mono (fun q hq => (⟨(hap q hq).1, Nat.lt_of_lt_of_le (hap q hq).2 HT2.out.2.size⟩ : ApB w (quadW w2 (w.heap.size + 3) (.int .i64 4) (.int .i64 0) (.string ⟨#[44]⟩) (.slice a2 2 c2)) q)))
          have HVN : Hid (T.mk 4 0 nComma [(T.mk 3 0 nCut []), v] = joinF ((gl0.drop p).map (fun x => calF x.x.t)) (calF z)) := Lib.hid (by
            rw [hdrop, List.map_cons, joinF, ← hI.out.2.2.2.2]
            have : calF x.x.t = (T.mk 3 0 nCut []) := by unfold calF calledF; rw [if_pos (by rw [← gx.1]; exact hxk)]; rfl
            rw [this])
          clear b0 b1 b2 b3 e0 e1 e2 e3 g0 g1 g2 g3 f0 f1 f2 f3 hr2 ho2 hap
          obtain ⟨t0, t1, t2, t3⟩ := HQ2.out.cells
          obtain ⟨f0, f1, f2, f3⟩ := HQ2.out.free
          go_wp2_with fail
          go_roundw
          case rel =>
            exact ⟨p, T.mk 4 0 nComma [(T.mk 3 0 nCut []), v], a2, c2, by omega, by first | rfl | go_num, Lib.hid ⟨HB2.out.only HT2.out.2 (fun k e => by have e' : k = w.heap.size + 3 := e; omega), HT2.out.1, HR3.out, sane_comp (by decide +kernel) (by show 2 ≤ maxLen; exact small_lit (by omega)), HVN.out⟩⟩
          case measure => simp [intOf]
        · have hxk' : (x.k == 2) = false := by simpa using hxk
          go_wp2_with fail
          have HO1 := Lib.hid oX
          have HWS : Hid ((wr.alloc (.cells #[.int .i64 x.x.t.k, .int .i64 x.x.t.n, .string x.x.t.s, .slice x.x.ao x.x.t.l.length x.x.cap] 24)).heap.size = wr.heap.size + 1) := Lib.hid (by simp)
          clear oX hc2
          generalize wr.alloc (.cells #[.int .i64 x.x.t.k, .int .i64 x.x.t.n, .string x.x.t.s, .slice x.x.ao x.x.t.l.length x.x.cap] 24) = W1 at *
          have HW := Lib.hid (hI.out.1.o.same HO1.out)
          refine (rComp_two (P := ApB w W1) ⟨#[44]⟩ x.x.t v x.x.ao bo x.x.cap bc W1 _ HWS.out (by decide +kernel) gx.2.1 ((gx.2.2.only HW.out (fun _ h => h) (fun _ _ e => e)).mono (fun q hq => ⟨.inl hq, Nat.lt_of_lt_of_le hq HW.out.size⟩)) hI.out.2.2.2.1 ((hI.out.2.2.1.only HO1.out (fun q hq => hq.2) (fun _ _ e => e)).mono (fun q hq => ⟨hq.1, Nat.lt_of_lt_of_le hq.2 HO1.out.size⟩)) (fun q hq => hq.2)).mono ?_
          rintro e w2 ⟨a2, c2, rfl, hr2, ho2⟩
          have o2 := HO1.out.same ho2
          have HB2 := Lib.hid (hI.out.1.only o2 (fun k e => e.elim))
          have HQ2 := Lib.hid (hI.out.2.1.only o2 (fun e => e))
          have HT2 := Lib.hid (HQ2.out.set (.int .i64 4) (.int .i64 0) (.string ⟨#[44]⟩) (.slice a2 2 c2))
          have hap : ∀ q, NewP (ApB w W1) W1 w2 q → (q < w.heap.size ∨ w.heap.size + 4 ≤ q) ∧ q < w2.heap.size := fun q hq => by
            have h1 := (hI.out.1.only HO1.out (fun k e => e.elim)).n
            have h2 := ho2.size
            rcases hq with hq | hq
            · exact ⟨hq.1, Nat.lt_of_lt_of_le hq.2 h2⟩
            · exact ⟨.inr (by omega), hq.2⟩
          have HR3 := Lib.hid ((hr2.only HT2.out.2 (fun q hq => (hap q hq).2) (fun q hq e => by have := (hap q hq).1; omega)).mono (fun q hq => (⟨(hap q hq).1, Nat.lt_of_lt_of_le (hap q hq).2 HT2.out.2.size⟩ : ApB w (quadW w2 (w.heap.size + 3) (.int .i64 4) (.int .i64 0) (.string ⟨#[44]⟩) (.slice a2 2 c2)) q)))
          have HVN : Hid (T.mk 4 0 nComma [x.x.t, v] = joinF ((gl0.drop p).map (fun x => calF x.x.t)) (calF z)) := Lib.hid (by
            rw [hdrop, List.map_cons, joinF, ← hI.out.2.2.2.2]
            have : calF x.x.t = x.x.t := by unfold calF calledF; rw [if_neg (by rw [← gx.1]; exact hxk)]
            rw [this])
          clear x0 x1 x2 x3 x4 x5 b0 b1 b2 b3 d0 d1 d2 d3 d4 d5 e0 e1 e2 e3 y1 y2 y3 y4 hr2 ho2 hap
          obtain ⟨t0, t1, t2, t3⟩ := HQ2.out.cells
          obtain ⟨f0, f1, f2, f3⟩ := HQ2.out.free
          go_wp2_with fail
          go_roundw
          case rel =>
            exact ⟨p, T.mk 4 0 nComma [x.x.t, v], a2, c2, by omega, by first | rfl | go_num, Lib.hid ⟨HB2.out.only HT2.out.2 (fun k e => by have e' : k = w.heap.size + 3 := e; omega), HT2.out.1, HR3.out, sane_comp (by decide +kernel) (by show 2 ≤ maxLen; exact small_lit (by omega)), HVN.out⟩⟩
          case measure => simp [intOf]
end Go.Proofs.Ytoogmlgaeipenaa.terms
