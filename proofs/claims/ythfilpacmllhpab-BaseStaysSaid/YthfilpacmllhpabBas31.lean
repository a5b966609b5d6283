/- Clauses by generations: what is too large to be looked at. -/
import Derived.Test.YthfilpacmllhpabBas30
namespace Go.Proofs.Ythfilpacmllhpab.bases
set_option maxRecDepth 100000
open Go.RowKit Go.Proofs.Ythfilpacmllhpab.own Go.Lib Go.Maps Go.WideMaps Go.Proofs.Ythfilpacmllhpab.idx Go.Proofs.Ythfilpacmllhpab.terms
/-- Goals that came in, of any size. -/
def ArgG0 (go : Option Addr) (gs : List GI) (w : World) : Prop := ∀ i x, gs[i]? = some x → ∃ b off, go = some ⟨b, off, none⟩ ∧ b < w.heap.size ∧ (w.cell? ⟨b, off + i * 5, none⟩ = some (.int .i64 x.k) ∧ w.cell? ⟨b, off + i * 5 + 1, none⟩ = some (.int .i64 x.t.k) ∧ w.cell? ⟨b, off + i * 5 + 2, none⟩ = some (.int .i64 x.t.n) ∧ w.cell? ⟨b, off + i * 5 + 3, none⟩ = some (.string x.t.s) ∧ w.cell? ⟨b, off + i * 5 + 4, none⟩ = some (.slice x.ao x.t.l.length x.cap)) ∧ x.t.Sane ∧ Row (fun k => k < w.heap.size) w x.ao x.t.l
theorem ArgG0.later {go : Option Addr} {gs : List GI} {w w' : World} (h : ArgG0 go gs w) (o : Only (fun _ => False) w w') : ArgG0 go gs w' := fun i x hx => by
  obtain ⟨b, off, h1, h2, ⟨c0, c1, c2, c3, c4⟩, h4, h5⟩ := h i x hx
  have key : ∀ j u, w.cell? ⟨b, off + i * 5 + j, none⟩ = some u → w'.cell? ⟨b, off + i * 5 + j, none⟩ = some u := fun j u hu => (o.cell (p := ⟨b, off + i * 5 + j, none⟩) h2 (fun e => e)).trans hu
  exact ⟨b, off, h1, Nat.lt_of_lt_of_le h2 o.size, ⟨key 0 _ c0, key 1 _ c1, key 2 _ c2, key 3 _ c3, key 4 _ c4⟩, h4, h5.later o⟩
theorem ArgG0.sized {go : Option Addr} {gs : List GI} {w : World} (h : ArgG0 go gs w) (hz : ∀ x ∈ gs, x.t.size ≤ 6000) : ArgG go gs w := fun i x hx => by
  obtain ⟨b, off, h1, h2, h3, h4, h5⟩ := h i x hx
  exact ⟨b, off, h1, h2, h3, h4, h5, by have := hz x (List.mem_of_getElem? hx); omega⟩
set_option maxHeartbeats 8000000 in
theorem large_any (t : T) (ao : Option Addr) (cap : Nat) (v : Int) (go : Option Addr) (gs : List GI) (gc : Nat) (w : World) (ht : t.Sane) (hl : Row (fun k => k < w.heap.size) w ao t.l) (hg : ArgG0 go gs w) :
    Calls Try.prog 28 #[.agg #[.int .i64 t.k, .int .i64 t.n, .string t.s, .slice ao t.l.length cap, .slice go gs.length gc, .int .i64 v]] w fun e w' => ∃ r, e = .returned (.bool r) ∧ Only (fun _ => False) w w' ∧ (r = false → t.size ≤ 6000 ∧ gs.length ≤ 80 ∧ ∀ x ∈ gs, x.t.size ≤ 6000) := by
  obtain ⟨E, hE⟩ : ∃ E, E = w.alloc (.cells #[.int .i64 t.k, .int .i64 t.n, .string t.s, .slice ao t.l.length cap, .slice go gs.length gc, .int .i64 v] 34) := ⟨_, rfl⟩
  have HX : Hid (Hex w.heap.size (.int .i64 t.k) (.int .i64 t.n) (.string t.s) (.slice ao t.l.length cap) (.slice go gs.length gc) (.int .i64 v) E) := Lib.hid (by rw [hE]; exact heap_alloc_new _ _)
  have HO : Hid (Only (fun _ => False) w E) := Lib.hid (by rw [hE]; exact Only.alloc _ _ _)
  have HAG := Lib.hid (hg.later HO.out)
  have HLG := Lib.hid (rlarge_any t E ao cap (hl.later HO.out) ht)
  have HSZ : Hid (∀ W, Only (fun _ => False) E W → t.size ≤ 6000 → Calls Try.prog 54 #[tv t ao cap] W fun e w' => e = .returned (.int .i64 (t.size : Nat)) ∧ Only (fun _ => False) W w') := Lib.hid (fun W o hz => rsize_any t W ao cap ((hl.later HO.out).later o) ht (by omega))
  have HFW : Hid (t.Big = false → t.size ≤ 6000) := Lib.hid T.few
  obtain ⟨x0, x1, x2, x3, x4, x5⟩ := HX.out.cells
  clear ht hl hg
  generalize hbk : w.heap.size = bk at *
  generalize t.Big = big at *
  go_enter Try.func28, Try.ntmps28
  go_upto_region 1 with fail
  rw [← hE]
  clear hE
  go_wp2_with fail
  refine HLG.out.mono ?_
  rintro e w1 ⟨rfl, ho1⟩
  have HO1 := Lib.hid ho1
  clear ho1 HLG x0 x1 x2 x3 x4 x5
  obtain ⟨x0, x1, x2, x3, x4, x5⟩ := (HX.out.only HO1.out (fun e => e)).cells
  cases big with
  | true =>
    go_wp2_with fail
    go_ret
    exact ⟨true, rfl, HO.out.same HO1.out, fun e => by cases e⟩
  | false =>
    have hz := HFW.out rfl
    by_cases hgl : gs.length ≤ 80
    · have hgt : ¬ (80 < gs.length) := by omega
      have hgt2 : decide ((gs.length : Int) > 80) = false := decide_eq_false (by omega)
      have HSS := Lib.hid (HSZ.out w1 HO1.out hz)
      go_wp2_with fail
      refine HSS.out.mono ?_
      rintro e w2 ⟨rfl, ho2⟩
      have HO2 := Lib.hid (HO1.out.same ho2)
      clear ho2 HSS x0 x1 x2 x3 x4 x5 HO1
      go_wp2_with fail
      go_loopw [3, 4] (fun s3 s4 wr => ∃ (j m : Nat), s3 = .int .i64 m ∧ s4 = .int .i64 j ∧ m ≤ 8000 ∧ j ≤ gs.length ∧ Hid (Only (fun _ => False) E wr ∧ ∀ i x, i < j → gs[i]? = some x → x.t.size ≤ 6000)) (fun _ s4 _ => gs.length - (RowKit.intOf s4).toNat)
      case atStart => exact ⟨0, t.size, rfl, rfl, by omega, Nat.zero_le _, Lib.hid ⟨HO2.out, fun i x h => by omega⟩⟩
      case round =>
        obtain ⟨j, m, rfl, rfl, hm, hj, hI⟩ := hrel
        obtain ⟨x0, x1, x2, x3, x4, x5⟩ := (HX.out.only hI.out.1 (fun e => e)).cells
        by_cases hlt : j < gs.length
        · obtain ⟨x, hx⟩ : ∃ x, gs[j]? = some x := ⟨gs[j], List.getElem?_eq_getElem hlt⟩
          obtain ⟨bg, off, rfl, hbg, ⟨q0, q1, q2, q3, q4⟩, hsn, hrw⟩ := HAG.out.later hI.out.1 j x hx
          have HLX := Lib.hid (rlarge_any x.t wr x.ao x.cap hrw hsn)
          have HSX : Hid (∀ W, Only (fun _ => False) wr W → x.t.size ≤ 6000 → Calls Try.prog 54 #[tv x.t x.ao x.cap] W fun e w' => e = .returned (.int .i64 (x.t.size : Nat)) ∧ Only (fun _ => False) W w') := Lib.hid (fun W o hz => rsize_any x.t W x.ao x.cap (hrw.later o) hsn (by omega))
          have HFX : Hid (x.t.Big = false → x.t.size ≤ 6000) := Lib.hid T.few
          have HXX := Lib.hid hx
          have HJL := Lib.hid hlt
          have hwj : IntKind.i64.wrap ((j : Int) + 1) = ((j + 1 : Nat) : Int) := by rw [IntWalk.i64_in _ (by omega)]; omega
          clear hsn hrw hx
          generalize x.t.Big = big at *
          go_wp2_with fail
          refine HLX.out.mono ?_
          rintro e w3 ⟨rfl, ho3⟩
          have HO3 := Lib.hid (hI.out.1.same ho3)
          have HO3r := Lib.hid ho3
          clear ho3 x0 x1 x2 x3 x4 x5 q0 q1 q2 q3 q4 HLX
          obtain ⟨x0, x1, x2, x3, x4, x5⟩ := (HX.out.only HO3.out (fun e => e)).cells
          cases big with
          | true =>
            go_wp2_with fail
            go_ret
            exact ⟨true, rfl, HO.out.same HO3.out, fun e => by cases e⟩
          | false =>
            have hz3 := HFX.out rfl
            obtain ⟨bg', off', hgo, _, ⟨q0, q1, q2, q3, q4⟩, _, _⟩ := HAG.out.later HO3.out j x HXX.out
            cases hgo
            have HSS := Lib.hid (HSX.out w3 HO3r.out hz3)
            have hw : IntKind.i64.wrap ((m : Int) + (x.t.size : Int)) = ((m + x.t.size : Nat) : Int) := by rw [IntWalk.i64_in _ (by omega)]; omega
            have HZ3 := Lib.hid hz3
            clear HSX HFX
            go_wp2_with fail
            refine HSS.out.mono ?_
            rintro e w4 ⟨rfl, ho4⟩
            have HO4 := Lib.hid (HO3.out.same ho4)
            clear ho4 HSS x0 x1 x2 x3 x4 x5 q0 q1 q2 q3 q4
            by_cases hbig : m + x.t.size ≤ 8000
            · have hle : ¬ (8000 < m + x.t.size) := by omega
              have hle2 : decide (((m + x.t.size : Nat) : Int) > 8000) = false := decide_eq_false (by omega)
              generalize hms : m + x.t.size = m2 at *
              go_wp2_with fail
              go_roundw
              case rel => exact ⟨j + 1, m2, by go_num, by go_num, hbig, by omega, Lib.hid ⟨HO4.out, fun i y hi hy => by
                by_cases e : i < j
                · exact hI.out.2 i y e hy
                · obtain rfl : i = j := by omega
                  rw [HXX.out] at hy
                  cases hy
                  exact HZ3.out⟩⟩
              case measure => simp [RowKit.intOf]; omega
            · have hle : 8000 < m + x.t.size := by omega
              have hle2 : decide (((m + x.t.size : Nat) : Int) > 8000) = true := decide_eq_true (by omega)
              generalize hms : m + x.t.size = m2 at *
              go_wp2_with fail
              go_ret
              exact ⟨true, rfl, HO.out.same HO4.out, fun e => by cases e⟩
        · obtain rfl : j = gs.length := by omega
          have HALL : Hid (∀ x ∈ gs, x.t.size ≤ 6000) := Lib.hid (fun x hx => by
            obtain ⟨i, hi, rfl⟩ := List.getElem_of_mem hx
            exact hI.out.2 i _ hi (List.getElem?_eq_getElem hi))
          go_wp2_with fail
          go_ret
          exact ⟨false, rfl, HO.out.same hI.out.1, fun _ => ⟨hz, hgl, HALL.out⟩⟩
    · have hgt : 80 < gs.length := by omega
      have hgt2 : decide ((gs.length : Int) > 80) = true := decide_eq_true (by omega)
      go_wp2_with fail
      go_ret
      exact ⟨true, rfl, HO.out.same HO1.out, fun e => by cases e⟩
end Go.Proofs.Ythfilpacmllhpab.bases
