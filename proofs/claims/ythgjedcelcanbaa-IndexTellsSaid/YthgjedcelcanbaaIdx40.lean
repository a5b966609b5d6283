/- Selection by keys: the law of every call. -/
import Derived.Test.YthgjedcelcanbaaIdx39
import Derived.Test.YthgjedcelcanbaaIdx23
namespace Go.Proofs.Ythgjedcelcanbaa.idx
set_option maxRecDepth 100000
open Go.RowKit Go.Proofs.Ythgjedcelcanbaa.own Go.Lib Go.Maps Go.WideMaps
/-- One call of the law. -/
structure OpI where
  kd : Int
  i : Int
  k : Ky
  f : Bool
instance : Inhabited OpI := ⟨⟨0, 0, zK, false⟩⟩
/-- These calls lie where an argument says. -/
def ArgI (ao : Option Addr) (q : List OpI) (W : World) : Prop := ∀ (i : Nat) (y : OpI), q[i]? = some y → ∃ b off, ao = some ⟨b, off, none⟩ ∧ b < W.heap.size ∧ (W.cell? ⟨b, off + i * 6, none⟩ = some (.int .i64 y.kd) ∧ W.cell? ⟨b, off + i * 6 + 1, none⟩ = some (.int .i64 y.i) ∧ W.cell? ⟨b, off + i * 6 + 2, none⟩ = some (.int .i64 y.k.k) ∧ W.cell? ⟨b, off + i * 6 + 3, none⟩ = some (.string y.k.s) ∧ W.cell? ⟨b, off + i * 6 + 4, none⟩ = some (.int .i64 y.k.n) ∧ W.cell? ⟨b, off + i * 6 + 5, none⟩ = some (.bool y.f)) ∧ Fit y.kd ∧ Fit y.i ∧ y.k.Ok
theorem ArgI.later {ao : Option Addr} {q : List OpI} {W W' : World} (h : ArgI ao q W) (ho : Only (fun _ => False) W W') : ArgI ao q W' := fun i y hy => by
  obtain ⟨b, off, h1, h2, ⟨c0, c1, c2, c3, c4, c5⟩, h3⟩ := h i y hy
  exact ⟨b, off, h1, Nat.lt_of_lt_of_le h2 ho.size, ⟨(ho.cell (p := ⟨b, _, none⟩) h2 (fun e => e)).trans c0, (ho.cell (p := ⟨b, _, none⟩) h2 (fun e => e)).trans c1, (ho.cell (p := ⟨b, _, none⟩) h2 (fun e => e)).trans c2, (ho.cell (p := ⟨b, _, none⟩) h2 (fun e => e)).trans c3, (ho.cell (p := ⟨b, _, none⟩) h2 (fun e => e)).trans c4, (ho.cell (p := ⟨b, _, none⟩) h2 (fun e => e)).trans c5⟩, h3⟩
/-- Both tables, made since w. -/
structure Side (w : World) (b x N : Nat) (s : St) (M : List Pr) (W : World) : Prop where
  two : Two w.heap.size b x N s M W
  o : Only (fun _ => False) w W
section
variable {b x N : Nat} {s : St} {M : List Pr} {w W W' : World}
theorem Side.later (h : Side w b x N s M W) (ho : Only (fun _ => False) W W') : Side w b x N s M W' := ⟨h.two.later ho, h.o.same ho⟩
/-- Both tell the same of what meets a key. -/
theorem Side.all (h : Side w b x N s M W) (k : Ky) (hk : k.Ok) : ∃ xs : List Int, xs.length ≤ 1000000 ∧ (∀ W', Only (fun _ => False) W W' → Calls Try.prog 11 #[.pointer (some ⟨b, 0, none⟩), kyV k] W' fun e w' => ∃ a c, e = .returned (.slice a xs.length c) ∧ NumsAt w' a xs ∧ Only (fun _ => False) W' w') ∧ (∀ W', Only (fun _ => False) W W' → Calls Try.prog 12 #[.pointer (some ⟨x, 0, none⟩), kyV k] W' fun e w' => ∃ a c, e = .returned (.slice a xs.length c) ∧ NumsAt w' a xs ∧ Only (fun _ => False) W' w') := by
  obtain ⟨ao, cap, hr⟩ := h.two.r
  have hl := h.two.len
  refine ⟨(metP k M).map (·.id), by rw [List.length_map]; have := metP_len k M; omega, fun W' o => ?_, fun W' o => ?_⟩
  · refine (all_tab (TabB.later h.two.t o) k hk).mono ?_
    rintro e w1 ⟨a, c, rfl, hn, ho⟩
    rw [h.two.rl.met k] at hn
    refine ⟨a, c, ?_, NumsAt.row hn, ho⟩
    have := congrArg List.length (h.two.rl.met k)
    simp only [List.length_map] at this
    rw [List.length_map, this]
  · refine (rall_any (hr.later o) k (by omega)).mono ?_
    rintro e w1 ⟨a, c, rfl, hn, ho⟩
    exact ⟨a, c, by rw [List.length_map], NumsAt.row hn, ho⟩
/-- Both tell the same of what meets a key. -/
theorem Side.all0 (h : Side w b x N s M W) : ∃ xs : List Int, xs.length ≤ 1000000 ∧ (∀ W', Only (fun _ => False) W W' → Calls Try.prog 11 #[.pointer (some ⟨b, 0, none⟩), (.agg #[.int .i64 0, .string ⟨#[]⟩, .int .i64 0] : Value)] W' fun e w' => ∃ a c, e = .returned (.slice a xs.length c) ∧ NumsAt w' a xs ∧ Only (fun _ => False) W' w') ∧ (∀ W', Only (fun _ => False) W W' → Calls Try.prog 12 #[.pointer (some ⟨x, 0, none⟩), (.agg #[.int .i64 0, .string ⟨#[]⟩, .int .i64 0] : Value)] W' fun e w' => ∃ a c, e = .returned (.slice a xs.length c) ∧ NumsAt w' a xs ∧ Only (fun _ => False) W' w') := h.all zK zK_ok
end
theorem same_same (xs : List Int) (hl : xs.length ≤ 1000000) {a a' : Option Addr} (c c' : Nat) {W : World} (hx : NumsAt W a xs) (hy : NumsAt W a' xs) : Calls Try.prog 10 #[.slice a xs.length c, .slice a' xs.length c'] W fun e w' => e = .returned (.bool true) ∧ Only (fun _ => False) W w' := by
  have := same_ints xs xs a a' c c' W hx hy hl hl
  simpa using this
set_option maxHeartbeats 16000000 in
theorem law_does (qo : Option Addr) (qc : Nat) (q : List OpI) (w : World) (hq : ArgI qo q w) (hql : q.length ≤ maxLen) :
    Calls Try.prog 3 #[.slice qo q.length qc] w fun e w' => e = .returned (.bool true) ∧ Below w.heap.size w w' := by
  have HQ := Lib.hid hq
  have HLV := Lib.hid lives_any
  clear hq
  go_enter Try.func3, Try.ntmps3
  go_wp2_with fail
  refine (new_tab w).mono ?_
  rintro e w1 ⟨rfl, ht, ho⟩
  have HT := Lib.hid ht
  have HO := Lib.hid ho
  clear ht ho
  have HS : Hid (Side w (w.heap.size + 2) w1.heap.size 0 ⟨[], -1, 0⟩ [] (w1.alloc (.cells #[.slice none 0 0] 28))) := Lib.hid ⟨⟨HT.out.later (Only.alloc _ _ _), ⟨none, 0, heap_alloc_new _ _, RowOf.nil _ _ _ _ _⟩, HO.out.size, rfl⟩, HO.out.same (Only.alloc _ _ _)⟩
  clear HT HO
  go_upto_region 2 with fail
  generalize w1.alloc (.cells #[.slice none 0 0] 28) = w2 at *
  generalize w1.heap.size = x at *
  generalize hb : w.heap.size + 2 = b at *
  go_wp2_with fail
  refine (HLV.out w2).mono ?_
  rintro e w3 ⟨rfl, ho⟩
  replace HS := Lib.hid (HS.out.later ho)
  clear ho HLV
  go_wp2_with fail
  go_loopw [5] (fun iv wr => ∃ (j : Nat) (s : St) (M : List Pr), iv = .int .i64 j ∧ j ≤ q.length ∧ j ≤ 60 ∧ Hid (Side w b x j s M wr)) (fun iv _ => q.length - (RowKit.intOf iv).toNat)
  case atStart => exact ⟨0, _, _, rfl, by omega, by omega, HS⟩
  case round =>
    obtain ⟨j, s, M, rfl, hj, hj60, hI⟩ := hrel
    clear HS
    have j0 : (0 : Int) ≤ (j : Int) := by omega
    by_cases hlt : j < q.length
    · have j1 : (j : Int) < (q.length : Int) := by omega
      by_cases hlt2 : j < 60
      · have j2 : (j : Int) < 60 := by omega
        obtain ⟨y, hy⟩ : ∃ y, q[j]? = some y := ⟨_, List.getElem?_eq_getElem hlt⟩
        obtain ⟨g, off, rfl, _, _, hf1, hf2, hf3⟩ := HQ.out j y hy
        have HC : Hid (∀ W, Only (fun _ => False) w W → W.cell? ⟨g, off + j * 6, none⟩ = some (.int .i64 y.kd) ∧ W.cell? ⟨g, off + j * 6 + 1, none⟩ = some (.int .i64 y.i) ∧ W.cell? ⟨g, off + j * 6 + 2, none⟩ = some (.int .i64 y.k.k) ∧ W.cell? ⟨g, off + j * 6 + 3, none⟩ = some (.string y.k.s) ∧ W.cell? ⟨g, off + j * 6 + 4, none⟩ = some (.int .i64 y.k.n) ∧ W.cell? ⟨g, off + j * 6 + 5, none⟩ = some (.bool y.f)) := Lib.hid (fun W ho => by
          obtain ⟨b', off', e, _, h, _⟩ := HQ.out.later ho j y hy
          cases e
          exact h)
        clear hy
        obtain ⟨kd, i, k, f⟩ := y
        simp only at HC hf1 hf2 hf3
        have HOK := Lib.hid hf3
        have HD : Hid (Calls Try.prog 8 #[.pointer (some ⟨b, 0, none⟩), .pointer (some ⟨x, 0, none⟩), sixV kd i k f] wr.drew (fun e w' => DoOut w.heap.size b x j wr.drew w' e)) := Lib.hid (do_any (hI.out.two.later (Only.drew _ _)) (by omega) kd i hf2 k hf3 f)
        have HO : Hid (Only (fun _ => False) w wr.drew) := Lib.hid (hI.out.o.same (Only.drew _ _))
        clear hI hf1 hf2 hf3
        go_upto_region 7 with fail
        go_region_held3 (fun W => W.cell? ⟨g, off + j * 6, none⟩ = some (.int .i64 kd) ∧ W.cell? ⟨g, off + j * 6 + 1, none⟩ = some (.int .i64 i) ∧ W.cell? ⟨g, off + j * 6 + 2, none⟩ = some (.int .i64 k.k) ∧ W.cell? ⟨g, off + j * 6 + 3, none⟩ = some (.string k.s) ∧ W.cell? ⟨g, off + j * 6 + 4, none⟩ = some (.int .i64 k.n) ∧ W.cell? ⟨g, off + j * 6 + 5, none⟩ = some (.bool f)) (with_reducible first | exact HC.out _ S9.out.o | exact HC.out _ S8.out.o | exact HC.out _ S7.out.o | exact HC.out _ S6.out.o | exact HC.out _ S5.out.o | exact HC.out _ S4.out.o | exact HC.out _ S2.out.o | exact HC.out _ HO.out) (first
          | (go_at_call 8; (with_reducible refine HD.out.mono ?_); rintro r u2 ⟨rfl, ⟨s2, M2, h2⟩, o2⟩; have S2 : Hid (Side w b x (j + 1) s2 M2 u2) := Lib.hid ⟨h2, Only.cut HO.out o2 (fun _ e => e)⟩; obtain ⟨ao, cap, hr2⟩ := h2.r; have cx := hr2.cell; have HLN := Lib.hid h2.rl.len; obtain ⟨xs, hxl, hxP, hxR⟩ := S2.out.all k HOK.out; obtain ⟨ys, hyl, hyP, hyR⟩ := S2.out.all0; have HXP := Lib.hid hxP; have HXR := Lib.hid hxR; have HYP := Lib.hid hyP; have HYR := Lib.hid hyR; have HXL := Lib.hid hxl; have HYL := Lib.hid hyl; have HTL := Lib.hid (len_tab h2.t); rw [← HLN.out] at HTL; have hne : ((M2.length : Int) != (M2.length : Int)) = false := by simp
             clear h2 o2 hr2 hxP hxR hyP hyR hxl hyl)
          | (go_at_call 9; (with_reducible refine HTL.out.mono ?_); rintro r u3 ⟨rfl, rfl⟩)
          | (go_at_call 11; first
            | ((with_reducible refine (HXP.out _ (Only.refl _ _)).mono ?_); rintro r u4 ⟨a4, c4, rfl, hn4, o4⟩; have S4 := Lib.hid (S2.out.later o4); have O4 := Lib.hid o4; have N4 := Lib.hid hn4; clear hn4 o4)
            | ((with_reducible refine (HYP.out u6 O6.out).mono ?_); rintro r u7 ⟨a7, c7, rfl, hn7, o7⟩; have S7 := Lib.hid (S6.out.later o7); have O7 := Lib.hid (O6.out.same o7); have N7 := Lib.hid hn7; clear hn7 o7))
          | (go_at_call 12; first
            | ((with_reducible refine (HXR.out u4 O4.out).mono ?_); rintro r u5 ⟨a5, c5, rfl, hn5, o5⟩; have S5 := Lib.hid (S4.out.later o5); have O5 := Lib.hid (O4.out.same o5); have N5 := Lib.hid hn5; have N45 := Lib.hid (N4.out.later o5); clear hn5 o5)
            | ((with_reducible refine (HYR.out u7 O7.out).mono ?_); rintro r u8 ⟨a8, c8, rfl, hn8, o8⟩; have S8 := Lib.hid (S7.out.later o8); have N8 := Lib.hid hn8; have N78 := Lib.hid (N7.out.later o8); clear hn8 o8))
          | (go_at_call 10; first
            | ((with_reducible refine (same_same xs HXL.out c4 c5 N45.out N5.out).mono ?_); rintro r u6 ⟨rfl, o6⟩; have S6 := Lib.hid (S5.out.later o6); have O6 := Lib.hid (O5.out.same o6); clear o6)
            | ((with_reducible refine (same_same ys HYL.out c7 c8 N78.out N8.out).mono ?_); rintro r u9 ⟨rfl, o9⟩; have S9 := Lib.hid (S8.out.later o9); clear o9)))
        all_goals
          go_wp2_with fail
          go_roundw
          case rel => exact ⟨j + 1, s2, M2, by go_num, by omega, by omega, S9⟩
          case measure => simp [RowKit.intOf]; omega
      · have j2 : ¬ (j : Int) < 60 := by omega
        have HFIN := Lib.hid hI.out.o
        clear hI
        go_wp2_with fail
        go_ret
        exact ⟨rfl, HFIN.out.to_below⟩
    · have j1 : ¬ (j : Int) < (q.length : Int) := by omega
      have HFIN := Lib.hid hI.out.o
      clear hI
      go_wp2_with fail
      go_ret
      exact ⟨rfl, HFIN.out.to_below⟩
end Go.Proofs.Ythgjedcelcanbaa.idx
