/- A row is set. -/
import Derived.Test.YtaplfibhhdngbaaPool2
namespace Go.Proofs.Ytaplfibhhdngbaa.pools
open Go.RowKit Go.Proofs.Ytaplfibhhdngbaa.own Go.Proofs.Ytaplfibhhdngbaa.trees
variable {B b o k sz : Nat} {ao : Option Addr} {cap : Nat} {T : List Int} {w : World}

/-- While the ones above are told anew. -/
structure Setting (B k sz p : Nat) (n : Int) (g cap : Nat) (T : List Int) (w : World) (i : Nat) (T' : List Int) (wr : World) : Prop where
  but : But k T' i
  small : Small T'
  row : MostP B (some ⟨g, 0, none⟩) cap T' wr
  leaf : ∀ q, q < sz → T'.getD (sz + q) 0 = if q = p then n else T.getD (sz + q) 0
  only : Only (· = g) w wr
theorem Small.set (h : Small T) (i : Nat) (hi : i < T.length) (x : Int) (hx : 0 ≤ x ∧ x ≤ 1048576) : Small (T.set i x) := by
  intro j
  rw [getD_set hi]
  by_cases e : j = i
  · rw [if_pos e]; exact hx
  · rw [if_neg e]; exact h j
theorem MostP.get {g : Nat} (h : MostP B (some ⟨g, 0, none⟩) cap T w) (j : Nat) (hj : j < T.length) : w.cell? ⟨g, j, none⟩ = some (.int .i32 (T.getD j 0)) ∧ w.frozen? ⟨g, j, none⟩ = false := by
  obtain ⟨x, hx⟩ : ∃ x, T[j]? = some x := ⟨_, List.getElem?_eq_getElem hj⟩
  obtain ⟨g', hg', _, hc⟩ := h.at lies32 j x hx
  cases hg'
  have h0 := hc 0 (by omega)
  simp only [Nat.mul_one, Nat.add_zero, enc32, List.getElem?_cons_zero] at h0
  refine ⟨?_, h0.2⟩
  rw [h0.1]
  simp [List.getD_eq_getElem?_getD, hx]
theorem MostP.put {g : Nat} (h : MostP B (some ⟨g, 0, none⟩) cap T w) (j : Nat) (hj : j < T.length) (x : Int) : MostP B (some ⟨g, 0, none⟩) cap (T.set j x) (w.setCell ⟨g, j, none⟩ (.int .i32 x)) ∧ Only (· = g) w (w.setCell ⟨g, j, none⟩ (.int .i32 x)) := by
  obtain ⟨y, hy⟩ : ∃ y, T[j]? = some y := ⟨_, List.getElem?_eq_getElem hj⟩
  have := h.stored lies32 j 0 y x (.int .i32 x) hy (by omega) (by simp [enc32])
  simpa using this
theorem Setting.start {g : Nat} (h : Runs B b o k sz (some ⟨g, 0, none⟩) cap T w) (p : Nat) (hp : p < sz) (n : Int) (hn : 0 ≤ n ∧ n ≤ 1048576) :
    Setting B k sz p n g cap T w ((sz + p) / 2) (T.set (sz + p) n) (w.setCell ⟨g, sz + p, none⟩ (.int .i32 n)) := by
  have hl := h.len
  have h1 := MostP.put h.row (sz + p) (by omega) n
  refine ⟨?_, h.small.set _ (by omega) _ hn, h1.1, ?_, h1.2⟩
  · exact h.tree.set (by rw [← h.size]; omega) (by rw [← h.size]; omega)
  · intro q hq
    rw [getD_set (by omega)]
    by_cases e : q = p
    · rw [if_pos (by omega), if_pos e]
    · rw [if_neg (by omega), if_neg e]
theorem Setting.up {g p i : Nat} {n : Int} {T' : List Int} {wr : World} (h : Setting B k sz p n g cap T w i T' wr) (hs : sz = 2 ^ k) (h0 : 1 ≤ i) (h1 : i < sz) :
    Setting B k sz p n g cap T w (i / 2) (T'.set i (max (T'.getD (2 * i) 0) (T'.getD (2 * i + 1) 0))) (wr.setCell ⟨g, i, none⟩ (.int .i32 (max (T'.getD (2 * i) 0) (T'.getD (2 * i + 1) 0)))) := by
  have hl := h.but.len
  have s1 := h.small (2 * i)
  have s2 := h.small (2 * i + 1)
  have hp := MostP.put h.row i (by omega) (max (T'.getD (2 * i) 0) (T'.getD (2 * i + 1) 0))
  refine ⟨h.but.up h0 (by omega), h.small.set _ (by omega) _ (by omega), hp.1, ?_, h.only.same hp.2⟩
  intro q hq
  rw [getD_set (by omega), if_neg (by omega)]
  exact h.leaf q hq
theorem Setting.drewN {g p i : Nat} {n : Int} {T' : List Int} {wr : World} {q : Addr} {v : Value} (h : Setting B k sz p n g cap T w i T' (wr.setCell q v)) (m : Nat) (wr' : World) (e : wr' = (wr.drewN m).setCell q v) : Setting B k sz p n g cap T w i T' wr' := by
  have e2 : (wr.drewN m).setCell q v = (wr.setCell q v).drewN m := rfl
  rw [e2] at e
  subst e
  exact ⟨h.but, h.small, h.row.only (Only.drewN (fun _ => False) _ m) (fun _ _ e => e), h.leaf, h.only.same (Only.drewN _ _ _)⟩
theorem Setting.end_ {g p i : Nat} {n : Int} {T' : List Int} {wr : World} (h : Setting B k sz p n g cap T w i T' wr) (h0 : Runs B b o k sz (some ⟨g, 0, none⟩) cap T w) (hgb : g ≠ b) (hb : b < w.heap.size) (ht : Tree k T') (m : Nat) :
    ∃ T', Runs B b o k sz (some ⟨g, 0, none⟩) cap T' (wr.drewN m) ∧ (∀ q, q < sz → T'.getD (sz + q) 0 = if q = p then n else T.getD (sz + q) 0) ∧ Only (RowAt (some ⟨g, 0, none⟩)) w (wr.drewN m) := by
  have hl : T'.length = T.length := by rw [ht.len, h0.tree.len]
  refine ⟨T', Runs.drewN ⟨?_, ?_, h.row, ht, h0.size, h0.few, h.small⟩ m, h.leaf, (h.only.mono ?_).same (Only.drewN _ _ _)⟩
  · rw [h.only.cell (p := ⟨b, o, none⟩) hb (fun e => hgb e.symm)]; exact h0.c0
  · rw [h.only.cell (p := ⟨b, o + 1, none⟩) hb (fun e => hgb e.symm), hl]; exact h0.c1
  · intro j _ e; exact ⟨_, rfl, e⟩
theorem lt_of_cell {q : Addr} {v : Value} (h : w.cell? q = some v) : q.block < w.heap.size := by
  unfold World.cell? at h
  by_cases hlt : q.block < w.heap.size
  · exact hlt
  · rw [Array.getElem?_eq_none (by omega)] at h
    simp at h

set_option maxRecDepth 100000 in
set_option maxHeartbeats 4000000 in
theorem set_any (p : Nat) (n : Int) (h : Runs B b o k sz ao cap T w) (hp : p < sz) (hn : 0 ≤ n ∧ n ≤ 1048576) (hsep : ∀ g, ao = some g → g.block ≠ b) :
    Calls Try.prog 45 #[.pointer (some ⟨b, o, none⟩), .int .i64 p, .int .i64 n] w fun e w' => e = .returned (.tuple #[]) ∧ ∃ T', Runs B b o k sz ao cap T' w' ∧ (∀ q, q < sz → T'.getD (sz + q) 0 = if q = p then n else T.getD (sz + q) 0) ∧ Only (RowAt ao) w w' := by
  have c0 := h.c0
  have c1 := h.c1
  have hl := h.len
  have hfew := h.few
  have hcap := h.row.cap_ge
  have hpos := h.pos
  obtain ⟨g, rfl, hb⟩ := h.block
  have hgb := hsep _ rfl
  have HH := Lib.hid h
  have rp := (hb (sz + p) (by omega)).1
  have fp := (hb (sz + p) (by omega)).2
  have HS0 := Lib.hid (Setting.start h p hp n hn)
  have hbs := lt_of_cell c0
  simp only at hbs hgb
  generalize hTL : T.length = L at *
  have HTL := Lib.hid hTL
  clear h hb hsep hTL
  go_enter Try.func45, Try.ntmps45
  go_wp2_with fail
  clear c0 rp fp
  go_loopw [6] (fun v wr => ∃ (i : Nat) (T' : List Int), v = .int .i64 i ∧ i < sz ∧ Hid (Setting B k sz p n g cap T w i T' wr)) (fun v _ => (intOf v).toNat)
  case atStart => exact ⟨(sz + p) / 2, _, by go_num, by omega, HS0⟩
  case round =>
    obtain ⟨i, T', rfl, hi, HS⟩ := hrel
    have hl' := HS.out.but.len
    rw [← HH.out.size, ← hl] at hl'
    have d1 := HS.out.only.cell (p := ⟨b, o + 1, none⟩) hbs (fun e => hgb e.symm)
    rw [c1] at d1
    clear c1 HS0
    by_cases hz : i = 0
    · subst hz
      have HE := Lib.hid (Setting.end_ HS.out HH.out hgb hbs HS.out.but.top)
      clear hl' d1
      go_wp2_with fail
      go_end0
      exact ⟨rfl, HE.out 0⟩
    · have ri := (MostP.get HS.out.row i (by omega)).1
      have fi := (MostP.get HS.out.row i (by omega)).2
      have rl := (MostP.get HS.out.row (2 * i) (by omega)).1
      have rr := (MostP.get HS.out.row (2 * i + 1) (by omega)).1
      have HX := Lib.hid (HS.out.up HH.out.size (by omega) hi)
      have HE := Lib.hid (fun hd => Setting.end_ HS.out HH.out hgb hbs (HS.out.but.done hd))
      have HLen := Lib.hid hl'
      clear hl'
      generalize T'.getD i 0 = xi at *
      generalize T'.getD (2 * i) 0 = xl at *
      generalize T'.getD (2 * i + 1) 0 = xr at *
      have i0 : (0 : Int) ≤ 2 * (i : Int) := by omega
      have i1 : 2 * (i : Int) < (L : Int) := by omega
      have i2 : (0 : Int) ≤ 2 * (i : Int) + 1 := by omega
      have i3 : 2 * (i : Int) + 1 < (L : Int) := by omega
      have w1 : IntKind.i64.wrap (2 * (i : Int)) = 2 * (i : Int) := IntWalk.i64_in _ (by omega)
      have w2 : IntKind.i64.wrap (2 * (i : Int) + 1) = 2 * (i : Int) + 1 := IntWalk.i64_in _ (by omega)
      have t1 : (2 * (i : Int)).toNat = 2 * i := by omega
      have t2 : (2 * (i : Int) + 1).toNat = 2 * i + 1 := by omega
      go_wp2_with fail
      go_quiet (fail)
      rw [show (if xl < xr then xr else xl) = max xl xr by split <;> omega]
      clear w1 w2 t1 t2 i0 i1 i2 i3 rl rr
      generalize max xl xr = xm at *
      have ri2 : (wr.drewN nq).cell? ⟨g, i, none⟩ = some (.int .i32 xi) := ri
      have fi2 : (wr.drewN nq).frozen? ⟨g, i, none⟩ = false := fi
      have d2 : (wr.drewN nq).cell? ⟨b, o + 1, none⟩ = some (.slice (some ⟨g, 0, none⟩) L cap) := d1
      clear ri fi d1
      have HX2 := Lib.hid (fun wr' hh => HX.out.drewN nq wr' hh)
      by_cases he : xi = xm
      · have HF := Lib.hid (HE.out he nq)
        have heb : (xi == xm) = true := by simp [he]
        clear HE HX he
        go_wp2_with fail
        refine bodyPost_ret (results_none rfl _ _ _) rfl ?_
        exact ⟨rfl, HF.out⟩
      · have heb : (xi == xm) = false := by simp [he]
        clear HE he
        go_wp2_with fail
        go_roundw
        case rel => exact ⟨i / 2, _, by simp, by omega, HX2.out _ rfl⟩
        case measure =>
          simp only [intOf]
          omega
end Go.Proofs.Ytaplfibhhdngbaa.pools
