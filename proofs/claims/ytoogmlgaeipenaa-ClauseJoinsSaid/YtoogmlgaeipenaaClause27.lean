/- Clauses: the reference's Same, SameGoals. -/
import Derived.Test.YtoogmlgaeipenaaClause26
import Derived.Test.YtoogmlgaeipenaaClause24
namespace Go.Proofs.Ytoogmlgaeipenaa.terms
set_option maxRecDepth 100000
open Go.RowKit Go.Proofs.Ytoogmlgaeipenaa.own Go.Maps
theorem gl_at {B : Nat} {go : Option Addr} {gc : Nat} {gl : List Gl} {w : World} (h : GlP B go gc gl w) {j : Nat} {y : Gl} (hy : gl[j]? = some y) : ∃ g, go = some ⟨g, 0, none⟩ ∧ g < w.heap.size ∧ w.cell? ⟨g, j * 5, none⟩ = some (.int .i64 y.k) ∧ w.cell? ⟨g, j * 5 + 1, none⟩ = some (.int .i64 y.x.t.k) ∧ w.cell? ⟨g, j * 5 + 2, none⟩ = some (.int .i64 y.x.t.n) ∧ w.cell? ⟨g, j * 5 + 3, none⟩ = some (.string y.x.t.s) ∧ w.cell? ⟨g, j * 5 + 4, none⟩ = some (.slice y.x.ao y.x.t.l.length y.x.cap) := by
  obtain ⟨g, hg, _, hc⟩ := h.at liesG j y hy
  exact ⟨g, hg, (h.head _ hg).2.2, (hc 0 (by omega)).1, (hc 1 (by omega)).1, (hc 2 (by omega)).1, (hc 3 (by omega)).1, (hc 4 (by omega)).1⟩
set_option maxHeartbeats 16000000 in
theorem rSameGoals_any (B B' : Nat) (go go' : Option Addr) (gc gc' : Nat) (gl gl' : List Gl) (w : World) (hr : GlP B go gc gl w) (hg : GoodG (· < w.heap.size) w gl) (hr' : GlP B' go' gc' gl' w) (hg' : GoodG (· < w.heap.size) w gl') (he : gl.map (·.x.t) = gl'.map (·.x.t)) (hn : gl.length ≤ 1000000) :
    Calls Try.prog 28 #[.slice go gl.length gc, .slice go' gl'.length gc'] w fun e w' => e = .returned (.bool true) ∧ Only (fun _ => False) w w' := by
  have hlen : gl'.length = gl.length := by have := congrArg List.length he; simpa using this.symm
  rw [hlen]
  have HR := Lib.hid hr
  have HG := Lib.hid hg
  have HR' := Lib.hid hr'
  have HG' := Lib.hid hg'
  have HE := Lib.hid he
  have HLEN := Lib.hid hlen
  clear hr hg hr' hg' he hlen
  go_enter Try.func28, Try.ntmps28
  go_wp2_with fail
  go_loopw [5] (fun iv wr => ∃ j : Nat, iv = .int .i64 j ∧ j ≤ gl.length ∧ Hid (Only (fun _ => False) w wr)) (fun iv _ => gl.length - (intOf iv).toNat)
  case atStart => exact ⟨0, rfl, by omega, Lib.hid (Only.refl _ _)⟩
  case round =>
    obtain ⟨j, rfl, hj, hO⟩ := hrel
    by_cases hlt : j < gl.length
    · obtain ⟨y, hy⟩ : ∃ y, gl[j]? = some y := ⟨_, List.getElem?_eq_getElem hlt⟩
      obtain ⟨z, hz⟩ : ∃ z, gl'[j]? = some z := ⟨_, List.getElem?_eq_getElem (by rw [HLEN.out]; exact hlt)⟩
      have hyz : y.x.t = z.x.t := by
        have h1 : (gl.map (·.x.t))[j]? = some y.x.t := by rw [List.getElem?_map, hy]; rfl
        have h2 : (gl'.map (·.x.t))[j]? = some z.x.t := by rw [List.getElem?_map, hz]; rfl
        rw [HE.out, h2] at h1
        injection h1 with h1
        exact h1.symm
      have gy := HG.out y (List.mem_of_getElem? hy)
      have gz := HG'.out z (List.mem_of_getElem? hz)
      have hkk : y.k = z.k := by rw [gy.1, gz.1, hyz]
      obtain ⟨g, rfl, hgl, _, _, _, _, _⟩ := gl_at HR.out hy
      obtain ⟨g', rfl, hgl', _, _, _, _, _⟩ := gl_at HR'.out hz
      have HK : Hid (∀ W, Only (fun _ => False) wr W → (W.cell? ⟨g, j * 5, none⟩ = some (.int .i64 y.k) ∧ W.cell? ⟨g, j * 5 + 1, none⟩ = some (.int .i64 y.x.t.k) ∧ W.cell? ⟨g, j * 5 + 2, none⟩ = some (.int .i64 y.x.t.n) ∧ W.cell? ⟨g, j * 5 + 3, none⟩ = some (.string y.x.t.s) ∧ W.cell? ⟨g, j * 5 + 4, none⟩ = some (.slice y.x.ao y.x.t.l.length y.x.cap)) ∧ W.cell? ⟨g', j * 5, none⟩ = some (.int .i64 y.k) ∧ W.cell? ⟨g', j * 5 + 1, none⟩ = some (.int .i64 y.x.t.k) ∧ W.cell? ⟨g', j * 5 + 2, none⟩ = some (.int .i64 y.x.t.n) ∧ W.cell? ⟨g', j * 5 + 3, none⟩ = some (.string y.x.t.s) ∧ W.cell? ⟨g', j * 5 + 4, none⟩ = some (.slice z.x.ao y.x.t.l.length z.x.cap)) := Lib.hid (fun W ho => by
        have o := hO.out.same ho
        obtain ⟨k, hk, _, a0, a1, a2, a3, a4⟩ := gl_at (HR.out.only o (fun _ _ e => e)) hy
        obtain ⟨k', hk', _, b0, b1, b2, b3, b4⟩ := gl_at (HR'.out.only o (fun _ _ e => e)) hz
        cases hk
        cases hk'
        rw [← hkk] at b0
        rw [← hyz] at b1 b2 b3 b4
        exact ⟨⟨a0, a1, a2, a3, a4⟩, b0, b1, b2, b3, b4⟩)
      have HEX : Hid (∀ W, Only (fun _ => False) wr W → Calls Try.prog 18 #[.agg #[.int .i64 y.x.t.k, .int .i64 y.x.t.n, .string y.x.t.s, .slice y.x.ao y.x.t.l.length y.x.cap], .agg #[.int .i64 y.x.t.k, .int .i64 y.x.t.n, .string y.x.t.s, .slice z.x.ao y.x.t.l.length z.x.cap]] W fun e w' => e = .returned (.bool true) ∧ Only (fun _ => False) W w') := Lib.hid (fun W ho => by
        have o := hO.out.same ho
        have h1 : Row (· < w.heap.size) W y.x.ao y.x.t.l := gy.2.2.only o (fun _ h => h) (fun _ _ e => e)
        have h2 : Row (· < w.heap.size) W z.x.ao y.x.t.l := by rw [hyz]; exact gz.2.2.only o (fun _ h => h) (fun _ _ e => e)
        have := exact_any y.x.t y.x.t W y.x.ao z.x.ao y.x.cap z.x.cap (h1.mono (fun _ h => Nat.lt_of_lt_of_le h o.size)) gy.2.1 (h2.mono (fun _ h => Nat.lt_of_lt_of_le h o.size)) gy.2.1
        rwa [T.eqb_refl] at this)
      clear hy hz hyz gy gz hkk hgl hgl'
      have hlti : (j : Int) < (gl.length : Int) := by omega
      have hge : (0 : Int) ≤ (j : Int) := by omega
      have hwj : IntKind.i64.wrap ((j : Int) + 1) = ((j + 1 : Nat) : Int) := by rw [IntWalk.i64_in _ (by omega)]; omega
      generalize y.x.t.k = yk at *
      generalize y.x.t.n = yn at *
      generalize y.x.t.s = ys at *
      generalize y.x.t.l.length = yl at *
      generalize y.k = kk at *
      go_upto_region 6 with fail
      go_region_held3 (fun W => (W.cell? ⟨g, j * 5, none⟩ = some (.int .i64 kk) ∧ W.cell? ⟨g, j * 5 + 1, none⟩ = some (.int .i64 yk) ∧ W.cell? ⟨g, j * 5 + 2, none⟩ = some (.int .i64 yn) ∧ W.cell? ⟨g, j * 5 + 3, none⟩ = some (.string ys) ∧ W.cell? ⟨g, j * 5 + 4, none⟩ = some (.slice y.x.ao yl y.x.cap)) ∧ W.cell? ⟨g', j * 5, none⟩ = some (.int .i64 kk) ∧ W.cell? ⟨g', j * 5 + 1, none⟩ = some (.int .i64 yk) ∧ W.cell? ⟨g', j * 5 + 2, none⟩ = some (.int .i64 yn) ∧ W.cell? ⟨g', j * 5 + 3, none⟩ = some (.string ys) ∧ W.cell? ⟨g', j * 5 + 4, none⟩ = some (.slice z.x.ao yl z.x.cap)) (with_reducible first | exact HK.out _ HA.out | exact HK.out _ (Only.drew _ _) | exact HK.out _ (Only.refl _ _)) (first
        | (go_at_call 18; refine (HEX.out _ (by with_reducible first | exact Only.drew _ _ | exact Only.refl _ _)).mono ?_; rintro e w3 ⟨rfl, ho3⟩; have HA : Hid (Only (fun _ => False) wr w3) := Lib.hid (Only.same (by with_reducible first | exact Only.drew _ _ | exact Only.refl _ _) ho3); clear ho3))
      all_goals
        go_wp2_with fail
        go_roundw
        case rel => exact ⟨j + 1, by go_num, by omega, Lib.hid (hO.out.same HA.out)⟩
        case measure => simp [intOf]; omega
    · obtain rfl : j = gl.length := by omega
      go_wp2_with fail
      go_ret
      exact ⟨rfl, hO.out⟩
set_option maxHeartbeats 16000000 in
theorem rSame_any (h : T) (gs : List T) (n : Int) (ho ho' go go' : Option Addr) (hc hc' gc gc' : Nat) (gl gl' : List Gl) (w : World) (H : ClI h gs ho go gc gl w) (H' : ClI h gs ho' go' gc' gl' w) (hn : gl.length ≤ 1000000) :
    Calls Try.prog 20 #[.agg #[.int .i64 h.k, .int .i64 h.n, .string h.s, .slice ho h.l.length hc, .slice go gl.length gc, .int .i64 n], .agg #[.int .i64 h.k, .int .i64 h.n, .string h.s, .slice ho' h.l.length hc', .slice go' gl'.length gc', .int .i64 n]] w fun e w' => e = .returned (.bool true) ∧ Only (fun _ => False) w w' := by
  have he : gl.map (·.x.t) = gl'.map (·.x.t) := by rw [H.eq, H'.eq]
  have hlen : gl'.length = gl.length := by have := congrArg List.length he; simpa using this.symm
  have HSG : Hid (∀ W, Only (fun _ => False) w W → Calls Try.prog 28 #[.slice go gl.length gc, .slice go' gl.length gc'] W fun e w' => e = .returned (.bool true) ∧ Only (fun _ => False) W w') := Lib.hid (fun W o => by
    have := rSameGoals_any 0 0 go go' gc gc' gl gl' W (H.later o).row (H.later o).good (H'.later o).row (H'.later o).good he hn
    rwa [hlen] at this)
  rw [hlen]
  have HEX : Hid (∀ W, Only (fun _ => False) w W → Calls Try.prog 18 #[.agg #[.int .i64 h.k, .int .i64 h.n, .string h.s, .slice ho h.l.length hc], .agg #[.int .i64 h.k, .int .i64 h.n, .string h.s, .slice ho' h.l.length hc']] W fun e w' => e = .returned (.bool true) ∧ Only (fun _ => False) W w') := Lib.hid (fun W o => by
    have := exact_any h h W ho ho' hc hc' (H.later o).lies H.sane (H'.later o).lies H.sane
    rwa [T.eqb_refl] at this)
  have HX : Hid (Hex w.heap.size (.int .i64 h.k) (.int .i64 h.n) (.string h.s) (.slice ho h.l.length hc) (.slice go gl.length gc) (.int .i64 n) ((w.alloc (.cells #[.int .i64 h.k, .int .i64 h.n, .string h.s, .slice ho h.l.length hc, .slice go gl.length gc, .int .i64 n] 37)).alloc (.cells #[.int .i64 h.k, .int .i64 h.n, .string h.s, .slice ho' h.l.length hc', .slice go' gl.length gc', .int .i64 n] 37))) := Lib.hid (at20 _ _ _)
  have HX' : Hid (Hex (w.heap.size + 1) (.int .i64 h.k) (.int .i64 h.n) (.string h.s) (.slice ho' h.l.length hc') (.slice go' gl.length gc') (.int .i64 n) ((w.alloc (.cells #[.int .i64 h.k, .int .i64 h.n, .string h.s, .slice ho h.l.length hc, .slice go gl.length gc, .int .i64 n] 37)).alloc (.cells #[.int .i64 h.k, .int .i64 h.n, .string h.s, .slice ho' h.l.length hc', .slice go' gl.length gc', .int .i64 n] 37))) := Lib.hid (at21 _ _ _)
  have HO : Hid (Only (fun _ => False) w ((w.alloc (.cells #[.int .i64 h.k, .int .i64 h.n, .string h.s, .slice ho h.l.length hc, .slice go gl.length gc, .int .i64 n] 37)).alloc (.cells #[.int .i64 h.k, .int .i64 h.n, .string h.s, .slice ho' h.l.length hc', .slice go' gl.length gc', .int .i64 n] 37))) := Lib.hid ((Only.alloc _ _ _).same (Only.alloc _ _ _))
  obtain ⟨c0, c1, c2, c3, c4, c5⟩ := HX.out.cells
  obtain ⟨d0, d1, d2, d3, d4, d5⟩ := HX'.out.cells
  clear H H' he hlen hn
  go_enter Try.func20, Try.ntmps20
  go_wp2_with fail
  generalize ((w.alloc (.cells #[.int .i64 h.k, .int .i64 h.n, .string h.s, .slice ho h.l.length hc, .slice go gl.length gc, .int .i64 n] 37)).alloc (.cells #[.int .i64 h.k, .int .i64 h.n, .string h.s, .slice ho' h.l.length hc', .slice go' gl.length gc', .int .i64 n] 37)) = E at *
  refine (HEX.out _ HO.out).mono ?_
  rintro e w1 ⟨rfl, ho1⟩
  have HX1 := Lib.hid (HX.out.only ho1 (fun e => e))
  have HX1' := Lib.hid (HX'.out.only ho1 (fun e => e))
  have HO1 := Lib.hid (HO.out.same ho1)
  clear c0 c1 c2 c3 c4 c5 d0 d1 d2 d3 d4 d5 ho1
  obtain ⟨c0, c1, c2, c3, c4, c5⟩ := HX1.out.cells
  obtain ⟨d0, d1, d2, d3, d4, d5⟩ := HX1'.out.cells
  go_wp2_with fail
  refine (HSG.out _ HO1.out).mono ?_
  rintro e w2 ⟨rfl, ho2⟩
  have HO2 := Lib.hid (HO1.out.same ho2)
  clear ho2
  go_wp2_with fail
  go_ret
  exact ⟨rfl, HO2.out⟩
end Go.Proofs.Ytoogmlgaeipenaa.terms
