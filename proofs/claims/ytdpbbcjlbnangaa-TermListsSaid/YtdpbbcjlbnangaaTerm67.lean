/- Terms: the law TermReplaces. -/
import Derived.Test.YtdpbbcjlbnangaaTerm66
import Derived.Test.YtdpbbcjlbnangaaTerm53
import Derived.Test.YtdpbbcjlbnangaaTerm46
import Derived.Test.YtdpbbcjlbnangaaTerm55
import Derived.Deep.RegionHeld3
namespace Go.Proofs.Ytdpbbcjlbnangaa.terms
open Go.RowKit Go.Proofs.Ytdpbbcjlbnangaa.own Go.Maps
/-- The zero term. -/
def T0 : T := .mk 0 0 ⟨#[]⟩ []
theorem sane_0 : T0.Sane := ⟨⟨by decide, by decide⟩, ⟨by decide, by decide⟩, Nat.zero_le _, Nat.zero_le _⟩
theorem getD_size (v : List T) (n : Nat) : (v.getD n default).size ≤ 1 + sizes v := by
  rw [List.getD_eq_getElem?_getD]
  cases h : v[n]? with
  | none => simp [default, T.size, sizes]
  | some x =>
    have := size_mem (List.mem_of_getElem? h)
    simp only [Option.getD_some]
    omega
theorem rep_size (v : List T) (t : T) : (replacedF v t).size ≤ t.size * (1 + sizes v) := by
  induction t using T.ind with
  | h k n s l ih =>
    have hl : sizes (replacedL v l) ≤ sizes l * (1 + sizes v) := by
      clear k n s
      induction l with
      | nil => simp [replacedL, sizes]
      | cons x r ihr =>
        have h1 := ih x (by simp)
        have h2 := ihr (fun y hy => ih y (by simp [hy]))
        simp only [replacedL, sizes, Nat.add_mul]
        omega
    unfold replacedF
    simp only [T.size]
    rw [Nat.add_mul, Nat.one_mul]
    have h0 : 0 ≤ sizes l * (1 + sizes v) := Nat.zero_le _
    split
    · split
      · have := getD_size v n.toNat
        omega
      · simp only [T.size]
        have : sizes l ≤ sizes l * (1 + sizes v) := Nat.le_mul_of_pos_right _ (by omega)
        omega
    · simp only [T.size]
      omega
set_option maxRecDepth 100000 in
set_option maxHeartbeats 1000000 in
theorem Items_no (t : T) (w : World) (ao : Option Addr) (cap : Nat) (hl : Lies w ao t.l) (hs : t.Sane) (hz : t.size ≤ 900000) (hno : ¬ t.Ok) : Calls Try.prog 38 #[tv t ao cap] w fun e w' => e = .returned (.tuple #[.slice none 0 0, .agg #[.int .i64 0, .int .i64 0, .string ⟨#[]⟩, .slice none 0 0]]) ∧ Only (fun _ => False) w w' := by
  have HM := Lib.hid (may_any1 t w ao cap hl hs hz)
  have HNO := Lib.hid hno
  clear hl hs hz hno
  have h1 := heap_alloc_new w (.cells #[.int .i64 t.k, .int .i64 t.n, .string t.s, .slice ao t.l.length cap] 24)
  have h2 := heap_alloc_new (w.alloc (.cells #[.int .i64 t.k, .int .i64 t.n, .string t.s, .slice ao t.l.length cap] 24)) (.cells #[.int .i64 0, .int .i64 0, .string ⟨#[]⟩, .slice none 0 0] 24)
  have h3 := heap_alloc_new ((w.alloc (.cells #[.int .i64 t.k, .int .i64 t.n, .string t.s, .slice ao t.l.length cap] 24)).alloc (.cells #[.int .i64 0, .int .i64 0, .string ⟨#[]⟩, .slice none 0 0] 24)) (.cells #[.int .i64 t.k, .int .i64 t.n, .string t.s, .slice ao t.l.length cap] 24)
  go_enter Try.func38, Try.ntmps38
  go_wp2_with fail
  have ho : Only (fun _ => False) w (((w.alloc (.cells #[.int .i64 t.k, .int .i64 t.n, .string t.s, .slice ao t.l.length cap] 24)).alloc (.cells #[.int .i64 0, .int .i64 0, .string ⟨#[]⟩, .slice none 0 0] 24)).alloc (.cells #[.int .i64 t.k, .int .i64 t.n, .string t.s, .slice ao t.l.length cap] 24)) := ((Only.alloc _ _ _).same (Only.alloc _ _ _)).same (Only.alloc _ _ _)
  have hres : Quad (w.heap.size + 1) (.int .i64 0) (.int .i64 0) (.string ⟨#[]⟩) (.slice none 0 0) (((w.alloc (.cells #[.int .i64 t.k, .int .i64 t.n, .string t.s, .slice ao t.l.length cap] 24)).alloc (.cells #[.int .i64 0, .int .i64 0, .string ⟨#[]⟩, .slice none 0 0] 24)).alloc (.cells #[.int .i64 t.k, .int .i64 t.n, .string t.s, .slice ao t.l.length cap] 24)) := by
    have := blk_later h2 (Only.alloc (fun _ => False) _ (.cells #[.int .i64 t.k, .int .i64 t.n, .string t.s, .slice ao t.l.length cap] 24))
    unfold Quad
    simpa using this
  refine (HM.out _ ho _ (by simpa using h3)).mono ?_
  rintro e w2 ⟨⟨b, rfl, hb⟩, ho2⟩
  obtain rfl : b = false := by
    cases b with
    | false => rfl
    | true => exact absurd (hb.1 rfl) HNO.out
  have HRES := Lib.hid (hres.only ho2 (fun e => e))
  have HO := Lib.hid (ho.same ho2)
  clear h1 h2 h3 ho hres ho2 hb
  have HSET := Lib.hid (HRES.out.set (.int .i64 0) (.int .i64 0) (.string ⟨#[]⟩) (.slice none 0 0))
  obtain ⟨g0, g1, g2, g3⟩ := HRES.out.cells
  obtain ⟨f0, f1, f2, f3⟩ := HRES.out.free
  go_wp2_with fail
  have hc := HSET.out.1.cells
  refine bodyPost_ret (v := .tuple #[.slice none 0 0, .agg #[.int .i64 0, .int .i64 0, .string ⟨#[]⟩, .slice none 0 0]]) (results_tmp_term rfl _ _ (w.heap.size + 1) _ _ _ _ _ rfl rfl hc.1 hc.2.1 hc.2.2.1 hc.2.2.2) rfl ?_
  exact ⟨rfl, Only.cut HO.out HSET.out.2 (fun k e => by omega)⟩
/-- A term in its box, while only new memory is made. -/
structure Boxed (w : World) (b : Nat) (t : T) (ao : Option Addr) (cap : Nat) (W : World) : Prop where
  t : Held b t ao cap W
  o : Only (fun _ => False) w W
theorem Boxed.later {w : World} {b : Nat} {t : T} {ao : Option Addr} {cap : Nat} {W W' : World} (h : Boxed w b t ao cap W) (ho : Only (fun _ => False) W W') : Boxed w b t ao cap W' := ⟨h.t.later ho, h.o.same ho⟩
set_option maxRecDepth 100000 in
set_option maxHeartbeats 16000000 in
theorem law_replaces_of (LV : ∀ w : World, Calls Try.prog 11 #[] w fun e w' => e = .returned (.bool true) ∧ Only (fun _ => False) w w') (ao : Option Addr) (cap : Nat) (t : T) (vo : Option Addr) (vc : Nat) (v : List T) (w : World) (hl : Lies w ao t.l) (hs : t.Sane) (hlv : Lies w vo v) (hvn : v.length ≤ maxLen) :
    Calls Try.prog 7 #[tv t ao cap, .slice vo v.length vc] w fun e w' => e = .returned (.bool true) ∧ Below w.heap.size w w' := by
  have HLV := Lib.hid LV
  have HLL := Lib.hid hlv
  have HL := Lib.hid hl
  have HS := Lib.hid hs
  have HB0 : Hid (Boxed w w.heap.size t ao cap (w.alloc (.cells #[.int .i64 t.k, .int .i64 t.n, .string t.s, .slice ao t.l.length cap] 24))) := Lib.hid ⟨Held.new cap hl, Only.alloc _ _ _⟩
  have HLA := Lib.hid (fun (w1 : World) (ho : Only (fun _ => False) w w1) => rlarge_any t w1 ao cap (hl.later ho) hs)
  unfold maxLen at hvn
  clear LV hl hs hlv
  by_cases hbig : t.Big = true
  · rw [hbig] at HLA
    go_enter Try.func7, Try.ntmps7
    go_wp2_with fail
    refine (HLA.out _ HB0.out.o).mono ?_
    rintro e w1 ⟨rfl, ho1⟩
    have HO1 := Lib.hid (HB0.out.o.same ho1)
    clear ho1 HLA
    go_wp2_with fail
    refine (HLV.out _).mono ?_
    rintro e w2 ⟨rfl, ho2⟩
    have HO2 := Lib.hid (HO1.out.same ho2)
    clear ho2
    go_wp2_with fail
    go_ret
    exact ⟨rfl, HO2.out.to_below⟩
  · have hbig' : t.Big = false := by simpa using hbig
    rw [hbig'] at HLA
    have hfew := T.few hbig'
    clear hbig hbig'
    by_cases hmany : 20 < v.length
    · have hm1 : (20 : Int) < (v.length : Int) := by omega
      go_enter Try.func7, Try.ntmps7
      go_wp2_with fail
      refine (HLA.out _ HB0.out.o).mono ?_
      rintro e w1 ⟨rfl, ho1⟩
      have HO1 := Lib.hid (HB0.out.o.same ho1)
      clear ho1 HLA
      go_wp2_with fail
      refine (HLV.out _).mono ?_
      rintro e w2 ⟨rfl, ho2⟩
      have HO2 := Lib.hid (HO1.out.same ho2)
      clear ho2
      go_wp2_with fail
      go_ret
      exact ⟨rfl, HO2.out.to_below⟩
    · have hm1 : ¬ (20 : Int) < (v.length : Int) := by omega
      have HCK : Hid (∀ w1, Only (fun _ => False) w w1 → Calls Try.prog 23 #[tv t ao cap] w1 fun e w' => e = .returned (.int .i64 (rcheckF t)) ∧ Only (fun _ => False) w1 w') := Lib.hid (fun w1 ho => rCheck_any t w1 ao cap (HL.out.later ho) HS.out (by have := depth_le_size t; omega) (by omega))
      have HSZ : Hid (∀ w1, Only (fun _ => False) w w1 → Calls Try.prog 31 #[tv t ao cap] w1 fun e w' => e = .returned (.int .i64 (t.size : Nat)) ∧ Only (fun _ => False) w1 w') := Lib.hid (fun w1 ho => rsize_any t w1 ao cap (HL.out.later ho) HS.out (by omega))
      go_enter Try.func7, Try.ntmps7
      go_wp2_with fail
      refine (HLA.out _ HB0.out.o).mono ?_
      rintro e w1 ⟨rfl, ho1⟩
      have HB1 := Lib.hid (HB0.out.later ho1)
      clear ho1 HLA HB0
      obtain ⟨c0, c1, c2, c3⟩ := HB1.out.t.q.cells
      go_wp2_with fail
      refine (HCK.out _ HB1.out.o).mono ?_
      rintro e w2 ⟨rfl, ho2⟩
      have HI0 : Hid ((((rcheckF t == 0) = true) ↔ t.Ok ∧ ∀ x ∈ v.take 0, x.Ok) ∧ (∀ x ∈ v.take 0, x.Big = false) ∧ Boxed w w.heap.size t ao cap w2) := Lib.hid ⟨by simp [rcheck_iff], fun x hx => by simp at hx, HB1.out.later ho2⟩
      clear ho2 HB1 c0 c1 c2 c3
      go_wp2_with fail
      go_loopw [5, 6, 7] (fun v5 v6 i wr => ∃ (j : Nat) (m : Bool), i = .int .i64 j ∧ j ≤ v.length ∧ v5 = .bool m ∧ v6 = .int .i64 ((1 + sizes (v.take j) : Nat)) ∧ Hid ((m = true ↔ t.Ok ∧ ∀ x ∈ v.take j, x.Ok) ∧ (∀ x ∈ v.take j, x.Big = false) ∧ Boxed w w.heap.size t ao cap wr)) (fun _ _ i _ => v.length - (intOf i).toNat)
      case atStart => exact ⟨0, _, rfl, by omega, rfl, by simp [sizes], HI0⟩
      case round =>
        obtain ⟨j, m, rfl, hj, rfl, rfl, hI⟩ := hrel
        clear HI0
        by_cases hlt : j < v.length
        · obtain ⟨x, hx⟩ : ∃ x, v[j]? = some x := ⟨_, List.getElem?_eq_getElem hlt⟩
          obtain ⟨b, off, ro, rc, rfl, hb, t0, t1, t2, t3, hsane, hsub⟩ := (HLL.out.later hI.out.2.2.o).at hx
          have HXL := Lib.hid (rlarge_any x wr ro rc hsub hsane)
          have HX := Lib.hid hx
          have HXS := Lib.hid hsane
          have HXU := Lib.hid hsub
          have hj0 : (0 : Int) ≤ (j : Int) := by omega
          have hj1 : (j : Int) < (v.length : Int) := by omega
          have HSS : Hid (sizes (v.take j) ≤ 6000 * j) := by
            have h1 := sizes_small (l := v.take j) (fun y hy => T.few (hI.out.2.1 y hy))
            rw [List.length_take, Nat.min_eq_left (by omega)] at h1
            exact Lib.hid h1
          have HC : Hid (∀ W, Only (fun _ => False) wr W → W.cell? ⟨b, off + j * 4, none⟩ = some (.int .i64 x.k) ∧ W.cell? ⟨b, off + j * 4 + 1, none⟩ = some (.int .i64 x.n) ∧ W.cell? ⟨b, off + j * 4 + 2, none⟩ = some (.string x.s) ∧ W.cell? ⟨b, off + j * 4 + 3, none⟩ = some (.slice ro x.l.length rc)) := Lib.hid (fun W ho => ⟨(ho.cell (p := ⟨b, off + j * 4, none⟩) hb (fun e => e)).trans t0, (ho.cell (p := ⟨b, off + j * 4 + 1, none⟩) hb (fun e => e)).trans t1, (ho.cell (p := ⟨b, off + j * 4 + 2, none⟩) hb (fun e => e)).trans t2, (ho.cell (p := ⟨b, off + j * 4 + 3, none⟩) hb (fun e => e)).trans t3⟩)
          clear hx hsane hsub
          by_cases hxb : x.Big = true
          · rw [hxb] at HXL
            go_wp2_with fail
            refine HXL.out.mono ?_
            rintro e w3 ⟨rfl, ho3⟩
            have HO3 := Lib.hid (hI.out.2.2.o.same ho3)
            clear ho3 HXL
            go_wp2_with fail
            refine (HLV.out _).mono ?_
            rintro e w4 ⟨rfl, ho4⟩
            have HO4 := Lib.hid (HO3.out.same ho4)
            clear ho4
            go_wp2_with fail
            go_ret
            exact ⟨rfl, HO4.out.to_below⟩
          · have hxb' : x.Big = false := by simpa using hxb
            rw [hxb'] at HXL
            have hxf := T.few hxb'
            have HST := Lib.hid (show sizes (v.take (j + 1)) = sizes (v.take j) + x.size from sizes_step HX.out)
            have hsn : sizes (v.take j) ≤ 120000 := by have := HSS.out; omega
            have HNB : Hid (∀ y ∈ v.take (j + 1), y.Big = false) := Lib.hid (fun y hy => by
              rw [take_snoc HX.out] at hy
              rcases List.mem_append.1 hy with hy | hy
              · exact hI.out.2.1 y hy
              · rw [List.mem_singleton.1 hy]; exact hxb')
            have HNO : Hid ((∀ y ∈ v.take (j + 1), y.Ok) ↔ (∀ y ∈ v.take j, y.Ok) ∧ x.Ok) := Lib.hid (by
              rw [take_snoc HX.out]
              simp only [List.mem_append, List.mem_singleton]
              exact ⟨fun h => ⟨fun y hy => h y (.inl hy), h x (.inr rfl)⟩, fun h y hy => by rcases hy with hy | rfl; exact h.1 y hy; exact h.2⟩)
            clear hxb hxb'
            go_wp2_with fail
            refine HXL.out.mono ?_
            rintro e w3 ⟨rfl, ho3⟩
            have HB3 := Lib.hid (hI.out.2.2.later ho3)
            have HA3 := Lib.hid ho3
            clear ho3 HXL t0 t1 t2 t3
            obtain ⟨t0, t1, t2, t3⟩ := HC.out _ HA3.out
            cases m with
            | false =>
              go_wp2_with fail
              refine (rsize_any x _ ro rc (HXU.out.later HA3.out) HXS.out (by omega)).mono ?_
              rintro e w4 ⟨rfl, ho4⟩
              have HB4 := Lib.hid (HB3.out.later ho4)
              clear ho4
              go_wp2_with fail
              go_roundw
              case rel => exact ⟨j + 1, false, by go_num, by omega, rfl, by rw [HST.out]; go_num, Lib.hid ⟨by rw [HNO.out]; have := hI.out.1; simp at this ⊢; exact fun h1 h2 => absurd h2 (by simpa using this h1), HNB.out, HB4.out⟩⟩
              case measure => simp [intOf]; omega
            | true =>
              go_wp2_with fail
              refine (rCheck_any x _ ro rc (HXU.out.later HA3.out) HXS.out (by have := depth_le_size x; omega) (by omega)).mono ?_
              rintro e w4 ⟨rfl, ho4⟩
              have HB4 := Lib.hid (HB3.out.later ho4)
              have HA4 := Lib.hid (HA3.out.same ho4)
              clear ho4 t0 t1 t2 t3
              obtain ⟨t0, t1, t2, t3⟩ := HC.out _ HA4.out
              have HMM : Hid (((rcheckF x == 0) = true) ↔ t.Ok ∧ ∀ y ∈ v.take (j + 1), y.Ok) := Lib.hid (by
                rw [HNO.out]
                have h1 : t.Ok ∧ ∀ y ∈ v.take j, y.Ok := by simpa using hI.out.1
                simp only [beq_iff_eq, rcheck_iff]
                exact ⟨fun h => ⟨h1.1, h1.2, h⟩, fun h => h.2.2⟩)
              go_wp2_with fail
              refine (rsize_any x _ ro rc (HXU.out.later HA4.out) HXS.out (by omega)).mono ?_
              rintro e w5 ⟨rfl, ho5⟩
              have HB5 := Lib.hid (HB4.out.later ho5)
              clear ho5
              go_wp2_with fail
              go_roundw
              case rel => exact ⟨j + 1, rcheckF x == 0, by go_num, by omega, rfl, by rw [HST.out]; go_num, Lib.hid ⟨HMM.out, HNB.out, HB5.out⟩⟩
              case measure => simp [intOf]; omega
        · obtain rfl : j = v.length := by omega
          rw [List.take_length] at hI ⊢
          have hsv : sizes v ≤ 120000 := by
            have h1 := sizes_small (l := v) (fun y hy => T.few (hI.out.2.1 y hy))
            omega
          obtain ⟨c0, c1, c2, c3⟩ := hI.out.2.2.t.q.cells
          go_wp2_with fail
          obtain ⟨p, hp⟩ : ∃ p : Nat, p = t.size * (1 + sizes v) := ⟨_, rfl⟩
          have hpb : p ≤ 6000 * 120001 := by rw [hp]; exact Nat.mul_le_mul hfew (by omega)
          have hpe : (t.size : Int) * (1 + (sizes v : Int)) = (p : Int) := by
            rw [show ((1 : Int) + (sizes v : Int)) = ((1 + sizes v : Nat) : Int) by omega, ← Int.natCast_mul, ← hp]
          have hb0 : (0 : Int) ≤ (t.size : Int) * (1 + (sizes v : Int)) := by rw [hpe]; omega
          have hb1 : (t.size : Int) * (1 + (sizes v : Int)) ≤ 720006000 := by rw [hpe]; omega
          refine (HSZ.out _ hI.out.2.2.o).mono ?_
          rintro e w3 ⟨rfl, ho3⟩
          have HB3 := Lib.hid (hI.out.2.2.later ho3)
          clear ho3 c0 c1 c2 c3
          by_cases hpl : 100000 < p
          · have hpl1 : (100000 : Int) < (t.size : Int) * (1 + (sizes v : Int)) := by rw [hpe]; omega
            clear hpe hp
            go_wp2_with fail
            refine (HLV.out _).mono ?_
            rintro e w4 ⟨rfl, ho4⟩
            have HO4 := Lib.hid (HB3.out.o.same ho4)
            clear ho4
            go_wp2_with fail
            go_ret
            exact ⟨rfl, HO4.out.to_below⟩
          · have hpl1 : ¬ (100000 : Int) < (t.size : Int) * (1 + (sizes v : Int)) := by rw [hpe]; omega
            clear hpe
            have HMB : Hid (m = true ↔ t.Ok ∧ ∀ x ∈ v, x.Ok) := Lib.hid hI.out.1
            have hvs : ∀ x ∈ v, x.size ≤ 6000 ∧ x.Sane := fun x hx => by
              refine ⟨T.few (hI.out.2.1 x hx), ?_⟩
              obtain ⟨i, hi⟩ := List.mem_iff_getElem?.1 hx
              obtain ⟨_, _, _, _, _, _, _, _, _, _, h, _⟩ := HLL.out.at hi
              exact h
            have hrz : t.right = true → (replacedF v t).size ≤ 100000 := fun _ => by have := rep_size v t; omega
            obtain ⟨U, hU1, hU2⟩ : ∃ U, (t.Ok ∧ (∀ x ∈ v, x.Ok) ∧ (replacedF v t).Ok → U = replacedF v t) ∧ (¬ (t.Ok ∧ (∀ x ∈ v, x.Ok) ∧ (replacedF v t).Ok) → U = T0) := by
              by_cases h : t.Ok ∧ (∀ x ∈ v, x.Ok) ∧ (replacedF v t).Ok
              · exact ⟨_, fun _ => rfl, fun h' => absurd h h'⟩
              · exact ⟨_, fun h' => absurd h' h, fun _ => rfl⟩
            have hUS : U.Sane := by
              by_cases h : t.Ok ∧ (∀ x ∈ v, x.Ok) ∧ (replacedF v t).Ok
              · rw [hU1 h]; exact replacedF_sane v t HS.out (fun x hx => (hvs x hx).2) h.1.right
              · rw [hU2 h]; exact sane_0
            have HREP : Hid (∀ w1, Only (fun _ => False) w w1 → Calls Try.prog 37 #[tv t ao cap, .slice vo v.length vc] w1 fun e w' => ∃ a c, e = .returned (tv U a c) ∧ Lies w' a U.l ∧ Only (fun _ => False) w1 w') := by
              refine Lib.hid (fun w1 ho => ?_)
              by_cases h : t.Ok ∧ (∀ x ∈ v, x.Ok) ∧ (replacedF v t).Ok
              · have hm := repF_math (v := v) (t := t) h.1.right
                have hpos : 0 ≤ (repF v t).2 := by
                  by_cases hn : (repF v t).2 < 0
                  · have := hm.2 hn; have := h.2.2.size; omega
                  · omega
                have he := (hm.1 hpos).1
                refine (Replace_ok (with_ := v) h.2.1 (by omega) vo vc t w1 ao cap (HL.out.later ho) HS.out h.1 (HLL.out.later ho) hpos (by rw [he]; exact h.2.2)).mono ?_
                rintro e w' ⟨a, c, rfl, h2, _, h4⟩
                rw [he] at h2 ⊢
                rw [hU1 h]
                exact ⟨a, c, rfl, h2.mono (fun q hq => hq.2), h4⟩
              · refine (Replace_no (with_ := v) (by omega) (fun x hx => by have := (hvs x hx).1; omega) vo vc t w1 ao cap (HL.out.later ho) HS.out (by omega) (HLL.out.later ho) h).mono ?_
                rintro e w' ⟨rfl, h4⟩
                rw [hU2 h]
                exact ⟨none, 0, rfl, Row.nil _ _ _, h4⟩
            obtain ⟨L, E, hLE1, hLE2⟩ : ∃ L E, (t.Ok → itemsF t = (L, E)) ∧ (¬ t.Ok → L = [] ∧ E = T0) := by
              by_cases h : t.Ok
              · exact ⟨_, _, fun _ => rfl, fun h' => absurd h h'⟩
              · exact ⟨_, _, fun h' => absurd h' h, fun _ => ⟨rfl, rfl⟩⟩
            have HIT : Hid (∀ w1, Only (fun _ => False) w w1 → Calls Try.prog 38 #[tv t ao cap] w1 fun e w' => ∃ oo oc a c, e = .returned (.tuple #[.slice oo L.length oc, tv E a c]) ∧ Lies w' oo L ∧ Lies w' a E.l ∧ (E.Sane ∧ L.length ≤ 1000000) ∧ Only (fun _ => False) w1 w') := by
              refine Lib.hid (fun w1 ho => ?_)
              by_cases h : t.Ok
              · refine (Items_ok t w1 ao cap (HL.out.later ho) HS.out h).mono ?_
                rw [hLE1 h]
                rintro e w' ⟨oo, oc, a, c, rfl, h1, h2, h3, h4, h5⟩
                exact ⟨oo, oc, a, c, rfl, h1.mono (fun q hq => hq.2), h2.mono (fun q hq => hq.2), ⟨h3, by simp only at h4; omega⟩, h5⟩
              · refine (Items_no t w1 ao cap (HL.out.later ho) HS.out (by omega) h).mono ?_
                obtain ⟨e1, e2⟩ := hLE2 h
                subst e1; subst e2
                rintro e w' ⟨rfl, h5⟩
                exact ⟨none, 0, none, 0, rfl, Row.nil _ _ _, Row.nil _ _ _, ⟨sane_0, by simp⟩, h5⟩
            have HEX : Hid (∀ (W : World) (X Y : T) (a b : Option Addr) (c d : Nat), X.Sane → Y.Sane → Lies W a X.l → Lies W b Y.l → Calls Try.prog 12 #[tv X a c, tv Y b d] W fun e w' => e = .returned (.bool (X.eqb Y)) ∧ Only (fun _ => False) W w') := Lib.hid (fun W X Y a b c d hX hY ha hb => exact_any X Y W a b c d ha hX hb hY)
            have HEE : Hid (∀ (W : World) (X : T) (a b : Option Addr) (c d : Nat), X.Sane → Lies W a X.l → Lies W b X.l → Calls Try.prog 12 #[tv X a c, tv X b d] W fun e w' => e = .returned (.bool true) ∧ Only (fun _ => False) W w') := Lib.hid (fun W X a b c d hX ha hb => by
              have := exact_any X X W a b c d ha hX hb hX
              rwa [T.eqb_refl] at this)
            have HUS := Lib.hid hUS
            have HU := Lib.hid (And.intro hU1 hU2)
            have HLE := Lib.hid (And.intro hLE1 hLE2)
            have HVS := Lib.hid hvs
            have HRZ := Lib.hid hrz
            obtain ⟨c0, c1, c2, c3⟩ := HB3.out.t.q.cells
            clear hU1 hU2 hLE1 hLE2 hUS hvs hp hpb hrz hsv
            go_wp2_with fail
            refine (HREP.out _ HB3.out.o).mono ?_
            rintro e w4 ⟨a4, c4, rfl, hl4, ho4⟩
            have HA4 := Lib.hid (ho4.same (Only.alloc (fun _ => False) w4 (.cells #[.int .i64 U.k, .int .i64 U.n, .string U.s, .slice a4 U.l.length c4] 24)))
            have HB5 := Lib.hid (HB3.out.later HA4.out)
            have HU5 := Lib.hid (Held.new c4 hl4)
            clear ho4 hl4 HB3 HA4 HREP c0 c1 c2 c3
            obtain ⟨c0, c1, c2, c3⟩ := HB5.out.t.q.cells
            go_wp2_with fail
            generalize w4.heap.size = b4 at *
            generalize w4.alloc (.cells #[.int .i64 U.k, .int .i64 U.n, .string U.s, .slice a4 U.l.length c4] 24) = w5 at *
            refine (HIT.out _ HB5.out.o).mono ?_
            rintro e w6 ⟨oo, oc, a6, c6, rfl, hlo, hl6, hes, ho6⟩
            have HA6 := Lib.hid (ho6.same (Only.alloc (fun _ => False) w6 (.cells #[.int .i64 E.k, .int .i64 E.n, .string E.s, .slice a6 E.l.length c6] 24)))
            have HB7 := Lib.hid (HB5.out.later HA6.out)
            have HU7 := Lib.hid (HU5.out.later HA6.out)
            have HE7 := Lib.hid (Held.new c6 hl6)
            have HL7 := Lib.hid (hlo.later (Only.alloc (fun _ => False) w6 (.cells #[.int .i64 E.k, .int .i64 E.n, .string E.s, .slice a6 E.l.length c6] 24)))
            have HES := Lib.hid hes
            clear ho6 hl6 hlo hes HB5 HU5 HA6 HIT c0 c1 c2 c3
            go_wp2_with fail
            generalize w6.heap.size = b6 at *
            generalize w6.alloc (.cells #[.int .i64 E.k, .int .i64 E.n, .string E.s, .slice a6 E.l.length c6] 24) = w7 at *
            refine (HLV.out _).mono ?_
            rintro e w8 ⟨rfl, ho8⟩
            have HB8 := Lib.hid (HB7.out.later ho8)
            have HU8 := Lib.hid (HU7.out.later ho8)
            have HE8 := Lib.hid (HE7.out.later ho8)
            have HL8 := Lib.hid (HL7.out.later ho8)
            clear ho8 HB7 HU7 HE7 HL7
            obtain ⟨c0, c1, c2, c3⟩ := HB8.out.t.q.cells
            go_wp2_with fail
            refine (HCK.out _ HB8.out.o).mono ?_
            rintro e w9 ⟨rfl, ho9⟩
            have HB9 := Lib.hid (HB8.out.later ho9)
            have HU9 := Lib.hid (HU8.out.later ho9)
            have HE9 := Lib.hid (HE8.out.later ho9)
            have HL9 := Lib.hid (HL8.out.later ho9)
            clear ho9 HB8 HU8 HE8 HL8 HCK HSZ c0 c1 c2 c3
            by_cases hok : t.Ok
            · have hr0 : rcheckF t = 0 := rcheck_iff.2 hok
              rw [hr0]
              have hle := HLE.out.1 hok
              have HRI : Hid (∀ w1, Only (fun _ => False) w w1 → Calls Try.prog 39 #[tv t ao cap] w1 fun e w' => ∃ oo oc a c, e = .returned (.tuple #[.slice oo L.length oc, tv E a c]) ∧ Lies w' oo L ∧ Lies w' a E.l ∧ Only (fun _ => False) w1 w') := by
                refine Lib.hid (fun w1 ho => ?_)
                refine (rItems_any t w1 ao cap (HL.out.later ho) HS.out (by have := hok.depth; omega)).mono ?_
                rw [hle]
                rintro e w' ⟨oo, oc, a, c, rfl, h1, h2, _, _, h5⟩
                exact ⟨oo, oc, a, c, rfl, h1, h2, h5⟩
              have HRR : Hid (m = true → ∀ w1, Only (fun _ => False) w w1 → Calls Try.prog 40 #[tv t ao cap, .slice vo v.length vc] w1 fun e w' => ∃ a c, e = .returned (tv (replacedF v t) a c) ∧ Row (fun q => q < w.heap.size ∨ Since w1 w' q) w' a (replacedF v t).l ∧ Only (fun _ => False) w1 w') := by
                refine Lib.hid (fun hm w1 ho => ?_)
                exact rReplace_row v (by omega) w.heap.size vo vc t w1 ao cap (HL.out.only ho (fun _ e => e) (fun _ _ e => e)) HS.out (HLL.out.only ho (fun _ e => e) (fun _ _ e => e)) (by omega) hok.right ho.size
              have HRS : Hid (m = true → (replacedF v t).Sane ∧ (replacedF v t).size ≤ 100000) := Lib.hid (fun hm => ⟨replacedF_sane v t HS.out (fun x hx => (HVS.out x hx).2) hok.right, HRZ.out hok.right⟩)
              have HUM : Hid (m = false → U = T0) := Lib.hid (fun hm => HU.out.2 (fun h => by have := HMB.out.2 ⟨h.1, h.2.1⟩; rw [hm] at this; cases this))
              have HUR : Hid (m = true → ((replacedF v t).Ok → U = replacedF v t) ∧ (¬ (replacedF v t).Ok → U = T0)) := Lib.hid (fun hm => ⟨fun h => HU.out.1 ⟨hok, (HMB.out.1 hm).2, h⟩, fun h => HU.out.2 (fun h' => h h'.2.2)⟩)
              obtain ⟨RR, hRR⟩ : ∃ RR, RR = replacedF v t := ⟨_, rfl⟩
              rw [← hRR] at HRR HRS HUR
              have hll := HES.out.2
              clear hle hr0 hRR HLE HU HRZ HMB hok
              obtain ⟨c0, c1, c2, c3⟩ := HB9.out.t.q.cells
              go_wp2_with fail
              refine (HRI.out _ HB9.out.o).mono ?_
              rintro e wa ⟨po, pc, aa, ca, rfl, hlp, hla, hoa⟩
              have HAA := Lib.hid (hoa.same (Only.alloc (fun _ => False) wa (.cells #[.int .i64 E.k, .int .i64 E.n, .string E.s, .slice aa E.l.length ca] 24)))
              have HBB := Lib.hid (HB9.out.later HAA.out)
              have HUB := Lib.hid (HU9.out.later HAA.out)
              have HEB := Lib.hid (HE9.out.later HAA.out)
              have HLB := Lib.hid (HL9.out.later HAA.out)
              have HFB := Lib.hid (Held.new ca hla)
              have HPB := Lib.hid (hlp.later (Only.alloc (fun _ => False) wa (.cells #[.int .i64 E.k, .int .i64 E.n, .string E.s, .slice aa E.l.length ca] 24)))
              clear hoa hlp hla HAA HB9 HU9 HE9 HL9 HRI c0 c1 c2 c3
              obtain ⟨c0, c1, c2, c3⟩ := HEB.out.q.cells
              obtain ⟨d0, d1, d2, d3⟩ := HFB.out.q.cells
              go_wp2_with fail
              generalize wa.heap.size = ba at *
              generalize wa.alloc (.cells #[.int .i64 E.k, .int .i64 E.n, .string E.s, .slice aa E.l.length ca] 24) = wb at *
              refine (HEX.out _ E E a6 aa c6 ca HES.out.1 HES.out.1 HEB.out.l HFB.out.l).mono ?_
              rintro e wc ⟨rfl, hoc⟩
              have HJ0 : Hid (Boxed w w.heap.size t ao cap wc ∧ Held b4 U a4 c4 wc ∧ Lies wc oo L ∧ Lies wc po L) := Lib.hid ⟨HBB.out.later hoc, HUB.out.later hoc, HLB.out.later hoc, HPB.out.later hoc⟩
              clear hoc HBB HUB HEB HLB HFB HPB c0 c1 c2 c3 d0 d1 d2 d3
              rw [T.eqb_refl]
              go_wp2_with fail
              go_loopw [13] (fun i wr => ∃ j : Nat, i = .int .i64 j ∧ j ≤ L.length ∧ Hid (Boxed w w.heap.size t ao cap wr ∧ Held b4 U a4 c4 wr ∧ Lies wr oo L ∧ Lies wr po L)) (fun i _ => L.length - (intOf i).toNat)
              case atStart => exact ⟨0, rfl, by omega, HJ0⟩
              case round =>
                obtain ⟨j, rfl, hj, hJ⟩ := hrel
                clear HJ0
                by_cases hlt : j < L.length
                · obtain ⟨x, hx⟩ : ∃ x, L[j]? = some x := ⟨_, List.getElem?_eq_getElem hlt⟩
                  obtain ⟨b, off, xo, xc, rfl, hb, t0, t1, t2, t3, hsane, hsub⟩ := hJ.out.2.2.1.at hx
                  obtain ⟨b', off', xo', xc', rfl, hb', s0, s1, s2, s3, _, hsub'⟩ := hJ.out.2.2.2.at hx
                  have HXS := Lib.hid hsane
                  have HXU := Lib.hid (And.intro hsub hsub')
                  have hj0 : (0 : Int) ≤ (j : Int) := by omega
                  have hj1 : (j : Int) < (L.length : Int) := by omega
                  have HK : Hid (∀ w', Only (fun _ => False) wr w' → w'.cell? ⟨b, off + j * 4, none⟩ = some (.int .i64 x.k) ∧ w'.cell? ⟨b, off + j * 4 + 1, none⟩ = some (.int .i64 x.n) ∧ w'.cell? ⟨b, off + j * 4 + 2, none⟩ = some (.string x.s) ∧ w'.cell? ⟨b, off + j * 4 + 3, none⟩ = some (.slice xo x.l.length xc) ∧ w'.cell? ⟨b', off' + j * 4, none⟩ = some (.int .i64 x.k) ∧ w'.cell? ⟨b', off' + j * 4 + 1, none⟩ = some (.int .i64 x.n) ∧ w'.cell? ⟨b', off' + j * 4 + 2, none⟩ = some (.string x.s) ∧ w'.cell? ⟨b', off' + j * 4 + 3, none⟩ = some (.slice xo' x.l.length xc')) := Lib.hid (fun w' ho => ⟨(ho.cell (p := ⟨b, off + j * 4, none⟩) hb (fun e => e)).trans t0, (ho.cell (p := ⟨b, off + j * 4 + 1, none⟩) hb (fun e => e)).trans t1, (ho.cell (p := ⟨b, off + j * 4 + 2, none⟩) hb (fun e => e)).trans t2, (ho.cell (p := ⟨b, off + j * 4 + 3, none⟩) hb (fun e => e)).trans t3, (ho.cell (p := ⟨b', off' + j * 4, none⟩) hb' (fun e => e)).trans s0, (ho.cell (p := ⟨b', off' + j * 4 + 1, none⟩) hb' (fun e => e)).trans s1, (ho.cell (p := ⟨b', off' + j * 4 + 2, none⟩) hb' (fun e => e)).trans s2, (ho.cell (p := ⟨b', off' + j * 4 + 3, none⟩) hb' (fun e => e)).trans s3⟩)
                  have HA : Hid (Only (fun _ => False) wr wr.drew) := Lib.hid (Only.drew _ _)
                  clear hx hsane hsub hsub' t0 t1 t2 t3 s0 s1 s2 s3
                  go_wp2_with fail
                  go_region_held3 (fun w' => w'.cell? ⟨b, off + j * 4, none⟩ = some (.int .i64 x.k) ∧ w'.cell? ⟨b, off + j * 4 + 1, none⟩ = some (.int .i64 x.n) ∧ w'.cell? ⟨b, off + j * 4 + 2, none⟩ = some (.string x.s) ∧ w'.cell? ⟨b, off + j * 4 + 3, none⟩ = some (.slice xo x.l.length xc) ∧ w'.cell? ⟨b', off' + j * 4, none⟩ = some (.int .i64 x.k) ∧ w'.cell? ⟨b', off' + j * 4 + 1, none⟩ = some (.int .i64 x.n) ∧ w'.cell? ⟨b', off' + j * 4 + 2, none⟩ = some (.string x.s) ∧ w'.cell? ⟨b', off' + j * 4 + 3, none⟩ = some (.slice xo' x.l.length xc')) (first | exact HK.out _ HA.out | go_keep) (first
                    | (go_at_call 12; refine (HEE.out _ x xo xo' xc xc' HXS.out (HXU.out.1.later HA.out) (HXU.out.2.later HA.out)).mono ?_; rintro e wx ⟨rfl, ho⟩; have HA := Lib.hid (HA.out.same ho); clear ho))
                  have HJ2 : Hid (Boxed w w.heap.size t ao cap _ ∧ Held b4 U a4 c4 _ ∧ Lies _ (some ⟨b, off, none⟩) L ∧ Lies _ (some ⟨b', off', none⟩) L) := Lib.hid ⟨hJ.out.1.later HA.out, hJ.out.2.1.later HA.out, hJ.out.2.2.1.later HA.out, hJ.out.2.2.2.later HA.out⟩
                  go_wp2_with fail
                  go_roundw
                  case rel => exact ⟨j + 1, by go_num, by omega, HJ2⟩
                  case measure => simp [intOf]; omega
                · obtain rfl : j = L.length := by omega
                  have HAZ := Lib.hid (Only.alloc (fun _ => False) wr (.cells #[.int .i64 0, .int .i64 0, .string ⟨#[]⟩, .slice none 0 0] 24))
                  have HBZ := Lib.hid (hJ.out.1.later HAZ.out)
                  have HUZ := Lib.hid (hJ.out.2.1.later HAZ.out)
                  have HZZ : Hid (Quad wr.heap.size (.int .i64 0) (.int .i64 0) (.string ⟨#[]⟩) (.slice none 0 0) (wr.alloc (.cells #[.int .i64 0, .int .i64 0, .string ⟨#[]⟩, .slice none 0 0] 24))) := Lib.hid (heap_alloc_new _ _)
                  have HB4 : Hid (b4 < wr.heap.size ∧ w.heap.size ≤ wr.heap.size) := Lib.hid ⟨lt_of_block hJ.out.2.1.q, hJ.out.1.o.size⟩
                  have HULZ : Hid (Row (fun q => q < wr.heap.size) (wr.alloc (.cells #[.int .i64 0, .int .i64 0, .string ⟨#[]⟩, .slice none 0 0] 24)) a4 U.l) := Lib.hid (hJ.out.2.1.l.only HAZ.out (fun _ e => e) (fun _ _ e => e))
                  have HSZZ : Hid (wr.heap.size < (wr.alloc (.cells #[.int .i64 0, .int .i64 0, .string ⟨#[]⟩, .slice none 0 0] 24)).heap.size) := Lib.hid (by simp)
                  clear HAZ hJ
                  obtain ⟨d0, d1, d2, d3⟩ := HZZ.out.cells
                  obtain ⟨f0, f1, f2, f3⟩ := HZZ.out.free
                  obtain ⟨c0, c1, c2, c3⟩ := HBZ.out.t.q.cells
                  cases m with
                  | false =>
                    obtain rfl := HUM.out rfl
                    clear c0 c1 c2 c3
                    obtain ⟨c0, c1, c2, c3⟩ := HUZ.out.q.cells
                    go_wp2_with fail
                    refine (HEE.out _ T0 a4 none c4 0 sane_0 HUZ.out.l (Row.nil _ _ _)).mono ?_
                    rintro e wz ⟨rfl, hoz⟩
                    have HZE := Lib.hid (HBZ.out.o.same hoz)
                    clear hoz
                    go_wp2_with fail
                    go_ret
                    exact ⟨rfl, HZE.out.to_below⟩
                  | true =>
                    have hrs := HRS.out rfl
                    have HRSS := Lib.hid hrs.1
                    have HUR2 := Lib.hid (HUR.out rfl)
                    have HRR2 := Lib.hid (HRR.out rfl)
                    have hrz := hrs.2
                    clear hrs HRS HUR HRR HUM
                    go_wp2_with fail
                    generalize wr.heap.size = bz at *
                    generalize wr.alloc (.cells #[.int .i64 0, .int .i64 0, .string ⟨#[]⟩, .slice none 0 0] 24) = wz at *
                    refine (HRR2.out _ HBZ.out.o).mono ?_
                    rintro e wd ⟨ad, cd, rfl, hld, hod⟩
                    have HBD := Lib.hid (HBZ.out.later hod)
                    have HUD := Lib.hid (HUZ.out.later hod)
                    have HZD := Lib.hid (HZZ.out.only hod (fun e => e))
                    have HLD : Hid (Lies wd ad RR.l) := Lib.hid (hld.mono (fun q hq => by
                      have h1 := HBZ.out.o.size
                      have h2 := hod.size
                      rcases hq with hq | hq
                      · omega
                      · exact hq.2))
                    have HULD := Lib.hid (HULZ.out.only hod (fun q hq => by have := HSZZ.out; omega) (fun _ _ e => e))
                    have HZS : Hid (bz < wd.heap.size) := Lib.hid (by have := HSZZ.out; have := hod.size; omega)
                    clear hod hld HBZ HUZ HZZ c0 c1 c2 c3 d0 d1 d2 d3 f0 f1 f2 f3
                    go_wp2_with fail
                    refine (rCheck_any RR _ ad cd HLD.out HRSS.out (by have := depth_le_size RR; omega) (by omega)).mono ?_
                    rintro e we ⟨rfl, hoe⟩
                    have HBE := Lib.hid (HBD.out.later hoe)
                    have HUE := Lib.hid (HUD.out.later hoe)
                    have HZE := Lib.hid (HZD.out.only hoe (fun e => e))
                    have HULE := Lib.hid (HULD.out.only hoe (fun q hq => by have := HZS.out; omega) (fun _ _ e => e))
                    have HZSE : Hid (bz < we.heap.size) := Lib.hid (by have := HZS.out; have := hoe.size; omega)
                    clear hoe HBD HUD HZD HLD
                    by_cases hro : RR.Ok
                    · have hr0 : rcheckF RR = 0 := rcheck_iff.2 hro
                      obtain rfl := HUR2.out.1 hro
                      rw [hr0]
                      clear hr0 hro
                      obtain ⟨c0, c1, c2, c3⟩ := HBE.out.t.q.cells
                      go_wp2_with fail
                      refine (HRR2.out _ HBE.out.o).mono ?_
                      rintro e wf ⟨af, cf, rfl, hlf, hof⟩
                      have HBF := Lib.hid (HBE.out.later hof)
                      have HUF := Lib.hid (HUE.out.later hof)
                      have HZF := Lib.hid (HZE.out.only hof (fun e => e))
                      have HULF := Lib.hid (HULE.out.only hof (fun q hq => by have := HZSE.out; omega) (fun _ _ e => e))
                      have HSF := Lib.hid (HZF.out.set (.int .i64 U.k) (.int .i64 U.n) (.string U.s) (.slice af U.l.length cf))
                      have HUS2 := Lib.hid (HUF.out.q.only HSF.out.2 (by have := HB4.out; omega))
                      have HUL2 := Lib.hid ((HULF.out.only HSF.out.2 (fun q hq => by have := HZSE.out; have := hof.size; omega) (fun q hq e => by omega)).mono (Q := fun q => q < (quadW wf bz (.int .i64 U.k) (.int .i64 U.n) (.string U.s) (.slice af U.l.length cf)).heap.size) (fun q hq => by have := HSF.out.2.size; have := HZSE.out; have := hof.size; omega))
                      have HFL2 := Lib.hid ((hlf.only HSF.out.2 (fun q hq => by have := hof.size; have := HBE.out.o.size; rcases hq with hq | hq; omega; exact hq.2) (fun q hq e => by have := HZSE.out; have := HB4.out; rcases hq with hq | hq; omega; have := hq.1; omega)).mono (Q := fun q => q < (quadW wf bz (.int .i64 U.k) (.int .i64 U.n) (.string U.s) (.slice af U.l.length cf)).heap.size) (fun q hq => by have := HSF.out.2.size; have := hof.size; have := HBE.out.o.size; rcases hq with hq | hq; omega; have := hq.2; omega))
                      have HOF2 := Lib.hid (Only.cut HBF.out.o HSF.out.2 (fun k e => by have := HB4.out; omega))
                      clear hof hlf HBE HUE HZE c0 c1 c2 c3
                      obtain ⟨c0, c1, c2, c3⟩ := HZF.out.cells
                      obtain ⟨f0, f1, f2, f3⟩ := HZF.out.free
                      obtain ⟨e0, e1, e2, e3⟩ := HSF.out.1.cells
                      obtain ⟨d0, d1, d2, d3⟩ := HUS2.out.cells
                      go_wp2_with fail
                      refine (HEE.out _ U a4 af c4 cf HUS.out HUL2.out HFL2.out).mono ?_
                      rintro e wg ⟨rfl, hog⟩
                      have HOG := Lib.hid (HOF2.out.same hog)
                      clear hog
                      go_wp2_with fail
                      go_ret
                      exact ⟨rfl, HOG.out.to_below⟩
                    · have hr0 : ¬ rcheckF RR = 0 := fun h => hro (rcheck_iff.1 h)
                      obtain rfl := HUR2.out.2 hro
                      generalize rcheckF RR = rc2 at *
                      obtain ⟨c0, c1, c2, c3⟩ := HUE.out.q.cells
                      obtain ⟨d0, d1, d2, d3⟩ := HZE.out.cells
                      go_wp2_with fail
                      refine (HEE.out _ T0 a4 none c4 0 sane_0 HUE.out.l (Row.nil _ _ _)).mono ?_
                      rintro e wz ⟨rfl, hoz⟩
                      have HZ9 := Lib.hid (HBE.out.o.same hoz)
                      clear hoz
                      go_wp2_with fail
                      go_ret
                      exact ⟨rfl, HZ9.out.to_below⟩
            · have hr0 : ¬ rcheckF t = 0 := fun h => hok (rcheck_iff.1 h)
              have hUE : U = T0 := HU.out.2 (fun h => hok h.1)
              obtain ⟨hLe, hEe⟩ := HLE.out.2 hok
              subst hUE; subst hLe; subst hEe
              generalize rcheckF t = rc at *
              obtain ⟨c0, c1, c2, c3⟩ := HU9.out.q.cells
              obtain ⟨d0, d1, d2, d3⟩ := HE9.out.q.cells
              go_wp2_with fail
              refine (HEX.out _ T0 T0 a4 none c4 0 sane_0 sane_0 HU9.out.l (Row.nil _ _ _)).mono ?_
              rintro e w10 ⟨rfl, ho10⟩
              have HE10 := Lib.hid (HE9.out.later ho10)
              have HB10 := Lib.hid (HB9.out.later ho10)
              clear ho10 c0 c1 c2 c3 d0 d1 d2 d3
              obtain ⟨d0, d1, d2, d3⟩ := HE10.out.q.cells
              rw [T.eqb_refl]
              go_wp2_with fail
              refine (HEX.out _ T0 T0 a6 none c6 0 sane_0 sane_0 HE10.out.l (Row.nil _ _ _)).mono ?_
              rintro e w11 ⟨rfl, ho11⟩
              have HB11 := Lib.hid (HB10.out.later ho11)
              clear ho11 d0 d1 d2 d3
              rw [T.eqb_refl]
              go_wp2_with fail
              go_ret
              exact ⟨rfl, HB11.out.o.to_below⟩
end Go.Proofs.Ytdpbbcjlbnangaa.terms
