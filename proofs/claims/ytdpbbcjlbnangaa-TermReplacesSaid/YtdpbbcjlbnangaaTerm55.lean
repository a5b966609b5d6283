/- Terms: the law TermMakes. -/
import Derived.Test.YtdpbbcjlbnangaaTerm42
import Derived.Test.YtdpbbcjlbnangaaTerm46
import Derived.Deep.RegionHeld3
import Derived.Deep.RegionWith
namespace Go.Proofs.Ytdpbbcjlbnangaa.terms
open Go.RowKit Go.Proofs.Ytdpbbcjlbnangaa.own Go.Maps
theorem sizes_small {l : List T} (h : ∀ x ∈ l, x.size ≤ 6000) : sizes l ≤ 6000 * l.length := by
  induction l with
  | nil => simp [sizes]
  | cons x r ih =>
    have h1 := h x (by simp)
    have h2 := ih (fun y hy => h y (by simp [hy]))
    simp only [sizes, List.length_cons]
    omega
theorem ex_leaf {k n : Int} {s : ByteArray} (hk : Fits k) (hn : Fits n) (hs : s.size ≤ maxLen) (W : World) : Calls Try.prog 12 #[.agg #[.int .i64 k, .int .i64 n, .string s, .slice none 0 0], .agg #[.int .i64 k, .int .i64 n, .string s, .slice none 0 0]] W fun e w' => e = .returned (.bool true) ∧ Only (fun _ => False) W w' := by
  have hsane : (T.mk k n s []).Sane := ⟨hk, hn, hs, Nat.zero_le _⟩
  have := exact_any (.mk k n s []) (.mk k n s []) W none none 0 0 (Row.nil _ _ _) hsane (Row.nil _ _ _) hsane
  rwa [T.eqb_refl] at this
theorem ratom_plain2 (s : ByteArray) (w : World) : Calls Try.prog 18 #[.string s] w fun e w' => e = .returned (.agg #[.int .i64 3, .int .i64 0, .string s, .slice none 0 0]) ∧ Only (fun _ => False) w w' := ratom_any s w
theorem int_plain2 (n : Int) (w : World) : Calls Try.prog 15 #[.int .i64 n] w fun e w' => e = .returned (.agg #[.int .i64 2, .int .i64 n, .string ⟨#[]⟩, .slice none 0 0]) ∧ Only (fun _ => False) w w' := int_any n w
theorem rint_plain2 (n : Int) (w : World) : Calls Try.prog 16 #[.int .i64 n] w fun e w' => e = .returned (.agg #[.int .i64 2, .int .i64 n, .string ⟨#[]⟩, .slice none 0 0]) ∧ Only (fun _ => False) w w' := rint_any n w
theorem fits_small (k : Int) (h : 0 ≤ k ∧ k ≤ 4) : Fits k := ⟨by omega, by omega⟩
set_option maxRecDepth 100000 in
set_option maxHeartbeats 8000000 in
theorem law_makes_of (LV : ∀ w : World, Calls Try.prog 11 #[] w fun e w' => e = .returned (.bool true) ∧ Only (fun _ => False) w w') (n : Int) (s : ByteArray) (hnf : Fits n) (hsf : s.size ≤ maxLen) (io : Option Addr) (ic : Nat) (ts : List T) (ao : Option Addr) (cap : Nat) (t : T) (w : World) (hil : Lies w io ts) (hin : ts.length ≤ maxLen) (hl : Lies w ao t.l) (hs : t.Sane) :
    Calls Try.prog 3 #[.int .i64 n, .string s, .slice io ts.length ic, tv t ao cap] w fun e w' => e = .returned (.bool true) ∧ Below w.heap.size w w' := by
  have HLV := Lib.hid LV
  have HL := Lib.hid hl
  have HS := Lib.hid hs
  have HIL := Lib.hid hil
  have HNF := Lib.hid hnf
  have HSF := Lib.hid hsf
  have hbx := heap_alloc_new w (.cells #[.int .i64 t.k, .int .i64 t.n, .string t.s, .slice ao t.l.length cap] 24)
  have HO0 : Hid (Only (fun _ => False) w (w.alloc (.cells #[.int .i64 t.k, .int .i64 t.n, .string t.s, .slice ao t.l.length cap] 24))) := Lib.hid (Only.alloc _ _ _)
  have HQ0 : Hid (Quad w.heap.size (.int .i64 t.k) (.int .i64 t.n) (.string t.s) (.slice ao t.l.length cap) (w.alloc (.cells #[.int .i64 t.k, .int .i64 t.n, .string t.s, .slice ao t.l.length cap] 24))) := Lib.hid hbx
  have HLA := Lib.hid (rlarge_any t _ ao cap (HL.out.later HO0.out) hs)
  clear LV hl hs hbx hil hnf hsf
  by_cases hmany : 60 < ts.length
  · have hm1 : (60 : Int) < (ts.length : Int) := by omega
    go_enter Try.func3, Try.ntmps3
    go_wp2_with fail
    refine (HLV.out _).mono ?_
    rintro e w2 ⟨rfl, ho2⟩
    have HO2 := Lib.hid (HO0.out.same ho2)
    clear ho2
    go_wp2_with fail
    go_ret
    exact ⟨rfl, HO2.out.to_below⟩
  · have hm1 : ¬ (60 : Int) < (ts.length : Int) := by omega
    by_cases hbig : t.Big = true
    · rw [hbig] at HLA
      go_enter Try.func3, Try.ntmps3
      go_wp2_with fail
      refine HLA.out.mono ?_
      rintro e w1 ⟨rfl, ho1⟩
      have HO1 := Lib.hid (HO0.out.same ho1)
      clear ho1 HLA
      go_wp2_with fail
      refine (HLV.out _).mono ?_
      rintro e w2 ⟨rfl, ho2⟩
      have HO2 := Lib.hid (HO1.out.same ho2)
      clear ho2
      go_wp2_with fail
      go_ret
      exact ⟨rfl, HO2.out.to_below⟩
    · have hbig' : t.Big = false := by simpa using hbig
      have HFEW := Lib.hid (T.few hbig')
      rw [hbig'] at HLA
      clear hbig hbig'
      go_enter Try.func3, Try.ntmps3
      go_wp2_with fail
      refine HLA.out.mono ?_
      rintro e w1 ⟨rfl, ho1⟩
      have HI0 : Hid (Only (fun _ => False) w w1 ∧ Quad w.heap.size (.int .i64 t.k) (.int .i64 t.n) (.string t.s) (.slice ao t.l.length cap) w1 ∧ ∀ x ∈ ts.take 0, x.Big = false) := Lib.hid ⟨HO0.out.same ho1, HQ0.out.only ho1 (fun e => e), fun x hx => by simp at hx⟩
      clear ho1 HLA
      go_wp2_with fail
      go_loopw [9] (fun i wr => ∃ j : Nat, i = .int .i64 j ∧ j ≤ ts.length ∧ Hid (Only (fun _ => False) w wr ∧ Quad w.heap.size (.int .i64 t.k) (.int .i64 t.n) (.string t.s) (.slice ao t.l.length cap) wr ∧ ∀ x ∈ ts.take j, x.Big = false)) (fun i _ => ts.length - (intOf i).toNat)
      case atStart => exact ⟨0, rfl, by omega, HI0⟩
      case round =>
        obtain ⟨j, rfl, hj, hI⟩ := hrel
        clear HI0
        by_cases hlt : j < ts.length
        · obtain ⟨x, hx⟩ : ∃ x, ts[j]? = some x := ⟨_, List.getElem?_eq_getElem hlt⟩
          obtain ⟨b, off, ro, rc, rfl, hb, t0, t1, t2, t3, hsane, hsub⟩ := (HIL.out.later hI.out.1).at hx
          have HXL := Lib.hid (rlarge_any x wr ro rc hsub hsane)
          have hj0 : (0 : Int) ≤ (j : Int) := by omega
          have hj1 : (j : Int) < (ts.length : Int) := by omega
          have HTK : Hid (ts.take (j + 1) = ts.take j ++ [x]) := Lib.hid (take_snoc hx)
          clear hx hsane hsub
          by_cases hxb : x.Big = true
          · rw [hxb] at HXL
            go_wp2_with fail
            refine HXL.out.mono ?_
            rintro e w2 ⟨rfl, ho2⟩
            have HO2 := Lib.hid (hI.out.1.same ho2)
            clear ho2 HXL
            go_wp2_with fail
            refine (HLV.out _).mono ?_
            rintro e w3 ⟨rfl, ho3⟩
            have HO3 := Lib.hid (HO2.out.same ho3)
            clear ho3
            go_wp2_with fail
            go_ret
            exact ⟨rfl, HO3.out.to_below⟩
          · have hxb' : x.Big = false := by simpa using hxb
            rw [hxb'] at HXL
            go_wp2_with fail
            refine HXL.out.mono ?_
            rintro e w2 ⟨rfl, ho2⟩
            have HI2 : Hid (Only (fun _ => False) w w2 ∧ Quad w.heap.size (.int .i64 t.k) (.int .i64 t.n) (.string t.s) (.slice ao t.l.length cap) w2 ∧ ∀ y ∈ ts.take (j + 1), y.Big = false) := Lib.hid ⟨hI.out.1.same ho2, hI.out.2.1.only ho2 (fun e => e), fun y hy => by
              rw [HTK.out] at hy
              rcases List.mem_append.1 hy with hy | hy
              · exact hI.out.2.2 y hy
              · rw [List.mem_singleton.1 hy]; exact hxb'⟩
            clear ho2 HXL
            go_wp2_with fail
            go_roundw
            case rel => exact ⟨j + 1, by go_num, by omega, HI2⟩
            case measure => simp [intOf]; omega
        · obtain rfl : j = ts.length := by omega
          have hall : ∀ x ∈ ts, x.size ≤ 6000 := fun x hx => T.few (hI.out.2.2 x (by rw [List.take_length]; exact hx))
          have hsz := sizes_small hall
          have HCO : Hid (∀ W, Only (fun _ => False) wr W → Calls Try.prog 19 #[.string s, .slice io ts.length ic] W fun e w' => ∃ a c, e = .returned (tv (compF s ts) a c) ∧ Lies w' a (compF s ts).l ∧ (compF s ts).Sane ∧ Only (fun _ => False) W w') := Lib.hid (fun W ho => (Comp_any s ts W io ic HSF.out (HIL.out.later (hI.out.1.same ho)) (by omega)).mono (fun e w' h => by
            obtain ⟨a, c, h1, h2, h3, h4⟩ := h
            exact ⟨a, c, h1, h2.mono (fun q hq => hq.2), h3, h4⟩))
          have HRC : Hid (∀ W, Only (fun _ => False) wr W → Calls Try.prog 20 #[.string s, .slice io ts.length ic] W fun e w' => ∃ a c, e = .returned (tv (compF s ts) a c) ∧ Lies w' a (compF s ts).l ∧ Only (fun _ => False) W w') := Lib.hid (fun W ho => (rComp_any s ts W io ic HSF.out (HIL.out.later (hI.out.1.same ho)) (by omega)).mono (fun e w' h => by
            obtain ⟨a, c, h1, h2, h3, h4⟩ := h
            exact ⟨a, c, h1, h2, h4⟩))
          have HLI : Hid (∀ W, Only (fun _ => False) wr W → Calls Try.prog 21 #[.slice io ts.length ic, .agg #[.int .i64 t.k, .int .i64 t.n, .string t.s, .slice ao t.l.length cap]] W fun e w' => ∃ a c, e = .returned (tv (listF ts t) a c) ∧ Lies w' a (listF ts t).l ∧ (listF ts t).Sane ∧ Only (fun _ => False) W w') := Lib.hid (fun W ho => (List_any ts t W io ao ic cap (HIL.out.later (hI.out.1.same ho)) (HL.out.later (hI.out.1.same ho)) HS.out (by rw [sizes_append]; have := HFEW.out; simp only [sizes]; omega)).mono (fun e w' h => by
            obtain ⟨a, c, h1, h2, h3, h4⟩ := h
            exact ⟨a, c, h1, h2.mono (fun q hq => hq.2), h3, h4⟩))
          have HRL : Hid (∀ W, Only (fun _ => False) wr W → Calls Try.prog 22 #[.slice io ts.length ic, .agg #[.int .i64 t.k, .int .i64 t.n, .string t.s, .slice ao t.l.length cap]] W fun e w' => ∃ a c, e = .returned (tv (listF ts t) a c) ∧ Lies w' a (listF ts t).l ∧ Only (fun _ => False) W w') := Lib.hid (fun W ho => (rList_any ts t W io ao ic cap (HIL.out.later (hI.out.1.same ho)) (HL.out.later (hI.out.1.same ho)) HS.out (by omega)).mono (fun e w' h => by
            obtain ⟨a, c, h1, h2, h3, h4⟩ := h
            exact ⟨a, c, h1, h2, h4⟩))
          have HEX : Hid (∀ (W : World) (u : T) (a b : Option Addr) (c d : Nat), u.Sane → Lies W a u.l → Lies W b u.l → Calls Try.prog 12 #[tv u a c, tv u b d] W fun e w' => e = .returned (.bool true) ∧ Only (fun _ => False) W w') := Lib.hid (fun W u a b c d hu ha hb => by
            have := exact_any u u W a b c d ha hu hb hu
            rwa [T.eqb_refl] at this)
          have HD0 : Hid (Only (fun _ => False) wr wr.drew) := Lib.hid (Only.drew _ _)
          have HK : Hid (∀ w', Only (fun _ => False) wr w' → w'.cell? ⟨w.heap.size, 0, none⟩ = some (.int .i64 t.k) ∧ w'.cell? ⟨w.heap.size, 1, none⟩ = some (.int .i64 t.n) ∧ w'.cell? ⟨w.heap.size, 2, none⟩ = some (.string t.s) ∧ w'.cell? ⟨w.heap.size, 3, none⟩ = some (.slice ao t.l.length cap)) := Lib.hid (fun w' ho => (hI.out.2.1.only ho (fun e => e)).cells)
          have HF1 := Lib.hid (fits_small 1 (by omega))
          have HF2 := Lib.hid (fits_small 2 (by omega))
          have HF3 := Lib.hid (fits_small 3 (by omega))
          have HF0 := Lib.hid (fits_small 0 (by omega))
          clear hall hsz
          have HA := HD0
          go_wp2_with fail
          go_region_held3 (fun w' => w'.cell? ⟨w.heap.size, 0, none⟩ = some (.int .i64 t.k) ∧ w'.cell? ⟨w.heap.size, 1, none⟩ = some (.int .i64 t.n) ∧ w'.cell? ⟨w.heap.size, 2, none⟩ = some (.string t.s) ∧ w'.cell? ⟨w.heap.size, 3, none⟩ = some (.slice ao t.l.length cap)) (first | exact HK.out _ HA.out | go_keep) (first
            | (go_at_call 11; refine (HLV.out _).mono ?_; rintro e wx ⟨rfl, ho⟩; have HA := Lib.hid (HA.out.same ho); clear ho)
            | (go_at_call 13; refine (var_plain _ _).mono ?_; rintro e wx ⟨rfl, ho⟩; have HA := Lib.hid (HA.out.same ho); clear ho)
            | (go_at_call 14; refine (rvar_plain _ _).mono ?_; rintro e wx ⟨rfl, ho⟩; have HA := Lib.hid (HA.out.same ho); clear ho)
            | (go_at_call 15; refine (int_plain2 _ _).mono ?_; rintro e wx ⟨rfl, ho⟩; have HA := Lib.hid (HA.out.same ho); clear ho)
            | (go_at_call 16; refine (rint_plain2 _ _).mono ?_; rintro e wx ⟨rfl, ho⟩; have HA := Lib.hid (HA.out.same ho); clear ho)
            | (go_at_call 17; refine (atom_plain _ _).mono ?_; rintro e wx ⟨rfl, ho⟩; have HA := Lib.hid (HA.out.same ho); clear ho)
            | (go_at_call 18; refine (ratom_plain2 _ _).mono ?_; rintro e wx ⟨rfl, ho⟩; have HA := Lib.hid (HA.out.same ho); clear ho)
            | (go_at_call 19; refine (HCO.out _ HA.out).mono ?_; rintro e wx ⟨ac, cc, rfl, hlc, hsc, ho⟩; have HA := Lib.hid (HA.out.same ho); have HLC := Lib.hid hlc; have HSC := Lib.hid hsc; clear ho hlc hsc)
            | (go_at_call 20; refine (HRC.out _ HA.out).mono ?_; rintro e wx ⟨ad, cd, rfl, hld, ho⟩; have HA := Lib.hid (HA.out.same ho); have HLC := Lib.hid (HLC.out.later ho); have HLD := Lib.hid hld; clear ho hld)
            | (go_at_call 21; refine (HLI.out _ HA.out).mono ?_; rintro e wx ⟨al, cl, rfl, hll, hsl, ho⟩; have HA := Lib.hid (HA.out.same ho); have HLL := Lib.hid hll; have HSL := Lib.hid hsl; clear ho hll hsl)
            | (go_at_call 22; refine (HRL.out _ HA.out).mono ?_; rintro e wx ⟨am, cm, rfl, hlm, ho⟩; have HA := Lib.hid (HA.out.same ho); have HLL := Lib.hid (HLL.out.later ho); have HLM := Lib.hid hlm; clear ho hlm)
            | (go_at_call_of 12 al; refine (HEX.out _ _ al am cl cm HSL.out HLL.out HLM.out).mono ?_; rintro e wx ⟨rfl, ho⟩; have HA := Lib.hid (HA.out.same ho); clear ho)
            | (go_at_call_of 12 ac; refine (HEX.out _ _ ac ad cc cd HSC.out HLC.out HLD.out).mono ?_; rintro e wx ⟨rfl, ho⟩; have HA := Lib.hid (HA.out.same ho); clear ho)
            | (go_at_call 12; refine (ex_leaf ?_ ?_ ?_ _).mono ?_
               · first
                   | exact HF1.out
                   | exact HF2.out
                   | exact HF3.out
               · first
                   | exact HNF.out
                   | exact HF0.out
               · first
                   | exact HSF.out
                   | exact Nat.zero_le _
               rintro e wx ⟨rfl, ho⟩; have HA := Lib.hid (HA.out.same ho); clear ho))
          go_wp2_with fail
          go_ret
          exact ⟨rfl, (hI.out.1.same HA.out).to_below⟩
end Go.Proofs.Ytdpbbcjlbnangaa.terms
