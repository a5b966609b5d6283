/- Terms: the law TermStays. -/
import Derived.Test.YtdpbbcjlbnangaaTerm46
import Derived.Test.YtdpbbcjlbnangaaTermD
import Derived.Test.YtdpbbcjlbnangaaTermE
import Derived.Test.YtdpbbcjlbnangaaTermA
import Derived.Deep.RegionHeld3
namespace Go.Proofs.Ytdpbbcjlbnangaa.terms
open Go.RowKit Go.Proofs.Ytdpbbcjlbnangaa.own Go.Maps
/-- Variables in their own places. -/
def ownVars (n : Nat) : List T := (List.range n).map (fun (i : Nat) => (T.mk 1 (i : Int) ⟨#[]⟩ []))
theorem ownVars_len (n : Nat) : (ownVars n).length = n := by simp [ownVars]
theorem ownVars_get {n i : Nat} (h : i < n) : (ownVars n)[i]? = some (.mk 1 (i : Int) ⟨#[]⟩ []) := by simp [ownVars, h]
theorem ownVars_succ (n : Nat) : ownVars (n + 1) = ownVars n ++ [.mk 1 (n : Int) ⟨#[]⟩ []] := by simp [ownVars, List.range_succ]
theorem var_Ok (i : Nat) (h : i < 1000) : (T.mk 1 (i : Int) ⟨#[]⟩ []).Ok := ⟨by
  rw [T.right_eq]
  have : (T.mk 1 (i : Int) ⟨#[]⟩ []).part = true := by
    show (if (1 : Int) = 1 then (if 0 ≤ (i : Int) then (if (i : Int) < 1073741824 then (if (⟨#[]⟩ : ByteArray).toList = [] then (((([] : List T).length : Nat) : Int) == 0) else false) else false) else false) else _) = true
    rw [if_pos rfl, if_pos (by omega), if_pos (by omega), if_pos (by kernel_rfl)]
    rfl
  rw [this]
  rfl, by simp [T.depth, depths], by simp [T.size, sizes]⟩
theorem repOut_own (n : Nat) (st : Int) (m : Int) (h0 : 0 ≤ m) (hst : 0 ≤ st) : repOut (ownVars n) st m = .mk 1 m ⟨#[]⟩ [] ∧ repNxt (ownVars n) st m = st := by
  obtain ⟨j, rfl⟩ : ∃ j : Nat, m = (j : Int) := ⟨m.toNat, by omega⟩
  unfold repOut repNxt repSt
  by_cases hj : n ≤ j
  · rw [if_pos (Or.inl (by simpa [ownVars_len] using hj)), if_pos (Or.inl (by simpa [ownVars_len] using hj))]
    exact ⟨rfl, rfl⟩
  · have hg : (ownVars n).getD (j : Int).toNat default = .mk 1 (j : Int) ⟨#[]⟩ [] := by simp [List.getD, ownVars_get (show j < n by omega)]
    have hc : ¬ ((ownVars n).length ≤ (j : Int).toNat ∨ st < 0) := by rw [ownVars_len]; simp; omega
    rw [if_neg hc, if_neg hc, hg]
    have hz : ((T.mk 1 (j : Int) ⟨#[]⟩ []).size : Int) = 1 := by simp [T.size, sizes]
    rw [hz]
    have hn : ¬ (st - (1 - 1) < 0) := by omega
    rw [if_neg hn]
    exact ⟨rfl, by omega⟩
theorem rep_own (n : Nat) (t : T) : ∀ st : Int, 0 ≤ st → t.right = true → exF (repOut (ownVars n)) (repNxt (ownVars n)) t st = (t, st) := by
  induction t using T.ind with
  | h k m s l ih =>
    intro st hst hr
    by_cases hk : k = 1
    · subst hk
      obtain ⟨h1, h2, h3, h4⟩ := var_form hr
      subst h1; subst h2
      obtain ⟨e1, e2⟩ := repOut_own n st m h3 hst
      unfold exF
      rw [if_pos rfl, e1, e2]
    · have hl : exL (repOut (ownVars n)) (repNxt (ownVars n)) l st = (l, st) := by
        have hrl : rights l = true := by rw [T.right_eq, Bool.and_eq_true] at hr; exact hr.2
        clear hr
        induction l with
        | nil => rfl
        | cons x r ihr =>
          rw [rights_iff] at hrl
          simp only [exL, ih x (by simp) st hst (hrl x (by simp)), ihr (fun y hy => ih y (by simp [hy])) (rights_iff.2 (fun y hy => hrl y (by simp [hy])))]
      unfold exF
      rw [if_neg hk, hl]
def ownIts (n : Nat) : List It := (ownVars n).map (fun t => ⟨t, none, 0⟩)
theorem ownIts_len (n : Nat) : (ownIts n).length = n := by simp [ownIts, ownVars_len]
theorem ownIts_succ (n : Nat) : ownIts (n + 1) = ownIts n ++ [⟨.mk 1 (n : Int) ⟨#[]⟩ [], none, 0⟩] := by simp [ownIts, ownVars_succ]
theorem ownIts_row {B n cap : Nat} {oo : Option Addr} {w : World} (h : ItsP B oo cap (ownIts n) w) (hn : n < 1000) : Lies w oo (ownVars n) := by
  have := Row.tail (P := fun k => k < w.heap.size) h (fun q _ hq => hq) (fun i x hx => by
    have hm := List.mem_of_getElem? hx
    obtain ⟨t, ht, rfl⟩ := List.mem_map.1 hm
    obtain ⟨j, hj, rfl⟩ := List.mem_map.1 ht
    have hj2 := List.mem_range.1 hj
    exact ⟨⟨⟨by show (-9223372036854775808 : Int) ≤ 1; omega, by show (1 : Int) ≤ 9223372036854775807; omega⟩, ⟨by show (-9223372036854775808 : Int) ≤ (j : Int); omega, by show (j : Int) ≤ 9223372036854775807; omega⟩, Nat.zero_le _, Nat.zero_le _⟩, Row.nil _ _ _⟩)
  simpa [ownIts, List.map_map, Function.comp_def] using this
set_option maxRecDepth 100000 in
set_option maxHeartbeats 4000000 in
theorem law_stays_of (LV : ∀ w : World, Calls Try.prog 11 #[] w fun e w' => e = .returned (.bool true) ∧ Only (fun _ => False) w w') (ao : Option Addr) (cap : Nat) (t : T) (n : Int) (w : World) (hl : Lies w ao t.l) (hs : t.Sane) :
    Calls Try.prog 9 #[tv t ao cap, .int .i64 n] w fun e w' => e = .returned (.bool true) ∧ Below w.heap.size w w' := by
  have HLV := Lib.hid LV
  have HL := Lib.hid hl
  have HS := Lib.hid hs
  obtain ⟨i0, hi, hz0, hz1, hz2⟩ := info_parts infoT
  have hbx := heap_alloc_new w (.cells #[.int .i64 t.k, .int .i64 t.n, .string t.s, .slice ao t.l.length cap] 24)
  have HO0 : Hid (Only (fun _ => False) w (w.alloc (.cells #[.int .i64 t.k, .int .i64 t.n, .string t.s, .slice ao t.l.length cap] 24))) := Lib.hid (Only.alloc _ _ _)
  have HQ0 : Hid (Quad w.heap.size (.int .i64 t.k) (.int .i64 t.n) (.string t.s) (.slice ao t.l.length cap) (w.alloc (.cells #[.int .i64 t.k, .int .i64 t.n, .string t.s, .slice ao t.l.length cap] 24))) := Lib.hid hbx
  have HLA := Lib.hid (rlarge_any t _ ao cap (HL.out.later HO0.out) hs)
  clear LV hl hs hbx
  by_cases hbig : t.Big = true
  · rw [hbig] at HLA
    go_enter Try.func9, Try.ntmps9
    go_wp2_with fail
    refine HLA.out.mono ?_
    rintro e w1 ⟨rfl, ho1⟩
    have HO1 := Lib.hid (HO0.out.same ho1)
    clear ho1 HLA
    go_wp2_with fail
    refine (HLV.out _).mono ?_
    rintro e w2 ⟨rfl, ho2⟩
    have HO2 := Lib.hid (HO1.out.same ho2)
    clear ho2
    go_wp2_with fail
    go_ret
    exact ⟨rfl, HO2.out.to_below⟩
  · have hbig' : t.Big = false := by simpa using hbig
    have hfew := T.few hbig'
    rw [hbig'] at HLA
    have HCK : Hid (∀ w1, Only (fun _ => False) w w1 → Calls Try.prog 23 #[tv t ao cap] w1 fun e w' => e = .returned (.int .i64 (rcheckF t)) ∧ Only (fun _ => False) w1 w') := Lib.hid (fun w1 ho => rCheck_any t w1 ao cap (HL.out.later ho) HS.out (by have := depth_le_size t; omega) (by omega))
    clear hbig hbig'
    by_cases hok : rcheckF t = 0
    · have HOK := Lib.hid (rcheck_iff.1 hok)
      rw [hok] at HCK
      clear hok
      by_cases hn0 : n < 0
      · go_enter Try.func9, Try.ntmps9
        go_wp2_with fail
        refine HLA.out.mono ?_
        rintro e w1 ⟨rfl, ho1⟩
        have HO1 := Lib.hid (HO0.out.same ho1)
        obtain ⟨c0, c1, c2, c3⟩ := (HQ0.out.only ho1 (fun e => e)).cells
        clear ho1 HLA
        go_wp2_with fail
        refine (HCK.out _ HO1.out).mono ?_
        rintro e w2 ⟨rfl, ho2⟩
        have HO2 := Lib.hid (HO1.out.same ho2)
        clear ho2 c0 c1 c2 c3
        go_wp2_with fail
        refine (HLV.out _).mono ?_
        rintro e w3 ⟨rfl, ho3⟩
        have HO3 := Lib.hid (HO2.out.same ho3)
        clear ho3
        go_wp2_with fail
        go_ret
        exact ⟨rfl, HO3.out.to_below⟩
      · by_cases hn1 : 200 < n
        · go_enter Try.func9, Try.ntmps9
          go_wp2_with fail
          refine HLA.out.mono ?_
          rintro e w1 ⟨rfl, ho1⟩
          have HO1 := Lib.hid (HO0.out.same ho1)
          obtain ⟨c0, c1, c2, c3⟩ := (HQ0.out.only ho1 (fun e => e)).cells
          clear ho1 HLA
          go_wp2_with fail
          refine (HCK.out _ HO1.out).mono ?_
          rintro e w2 ⟨rfl, ho2⟩
          have HO2 := Lib.hid (HO1.out.same ho2)
          clear ho2 c0 c1 c2 c3
          go_wp2_with fail
          refine (HLV.out _).mono ?_
          rintro e w3 ⟨rfl, ho3⟩
          have HO3 := Lib.hid (HO2.out.same ho3)
          clear ho3
          go_wp2_with fail
          go_ret
          exact ⟨rfl, HO3.out.to_below⟩
        · obtain ⟨N, rfl⟩ : ∃ N : Nat, n = (N : Int) := ⟨n.toNat, by omega⟩
          have hN : N ≤ 200 := by omega
          have HREP : Hid (∀ (w1 : World) (wo : Option Addr) (wc : Nat), Only (fun _ => False) w w1 → Lies w1 wo (ownVars N) → Calls Try.prog 37 #[tv t ao cap, .slice wo N wc] w1 fun e w' => ∃ ao' cap', e = .returned (tv t ao' cap') ∧ Lies w' ao' t.l ∧ Only (fun _ => False) w1 w') := Lib.hid (fun w1 wo wc ho hlw => by
            have e1 : repF (ownVars N) t = (t, 4096 - (t.size : Int)) := rep_own N t _ (by have := HOK.out.size; omega) HOK.out.right
            have h := Replace_ok (with_ := ownVars N) (fun x hx => by
              obtain ⟨j, hj, rfl⟩ := List.mem_map.1 hx
              exact var_Ok j (by have := List.mem_range.1 hj; omega)) (by rw [ownVars_len]; omega) wo wc t w1 ao cap (HL.out.later ho) HS.out HOK.out hlw (by rw [e1]; have := HOK.out.size; show 0 ≤ 4096 - (t.size : Int); omega) (by rw [e1]; exact HOK.out)
            rw [e1, ownVars_len] at h
            refine h.mono ?_
            rintro e w' ⟨ao', cap', h1, h2, _, h3⟩
            exact ⟨ao', cap', h1, h2.mono (fun q hq => hq.2), h3⟩)
          have HEX : Hid (∀ (w1 : World) (ao' : Option Addr) (cap' : Nat), Lies w1 ao' t.l → Only (fun _ => False) w w1 → Calls Try.prog 12 #[tv t ao' cap', tv t ao cap] w1 fun e w' => e = .returned (.bool true) ∧ Only (fun _ => False) w1 w') := Lib.hid (fun w1 ao' cap' h ho => by
            have := exact_any t t w1 ao' ao cap' cap h HS.out (HL.out.later ho) HS.out
            rwa [T.eqb_refl] at this)
          go_enter Try.func9, Try.ntmps9
          go_wp2_with fail
          refine HLA.out.mono ?_
          rintro e w1 ⟨rfl, ho1⟩
          have HO1 := Lib.hid (HO0.out.same ho1)
          have HQ1 := Lib.hid (HQ0.out.only ho1 (fun e => e))
          obtain ⟨c0, c1, c2, c3⟩ := HQ1.out.cells
          clear ho1 HLA
          go_wp2_with fail
          refine (HCK.out _ HO1.out).mono ?_
          rintro e w2 ⟨rfl, ho2⟩
          have HO2 := Lib.hid (HO1.out.same ho2)
          have HQ2 := Lib.hid (HQ1.out.only ho2 (fun e => e))
          clear ho2 c0 c1 c2 c3 HCK
          go_wp2_with fail
          have HI0 : Hid (Only (fun _ => False) w w2 ∧ Quad w.heap.size (.int .i64 t.k) (.int .i64 t.n) (.string t.s) (.slice ao t.l.length cap) w2 ∧ ItsP (w.heap.size + 1) none 0 (ownIts 0) w2) := Lib.hid ⟨HO2.out, HQ2.out, RowOf.nil _ _ _ _ _⟩
          go_loopw [5, 6] (fun v i wr => ∃ (j : Nat) (oo : Option Addr) (oc : Nat), v = .slice oo j oc ∧ i = .int .i64 j ∧ j ≤ N ∧ Hid (Only (fun _ => False) w wr ∧ Quad w.heap.size (.int .i64 t.k) (.int .i64 t.n) (.string t.s) (.slice ao t.l.length cap) wr ∧ ItsP (w.heap.size + 1) oo oc (ownIts j) wr)) (fun _ i _ => N - (intOf i).toNat)
          case atStart => exact ⟨0, none, 0, rfl, rfl, by omega, HI0⟩
          case round =>
            obtain ⟨j, oo, oc, rfl, rfl, hj, hI⟩ := hrel
            clear HI0
            by_cases hlt : j < N
            · have hj1 : (j : Int) < (N : Int) := by omega
              have HLEN := Lib.hid (ownIts_len j)
              go_wp2_with fail
              refine (rvar_plain _ _).mono ?_
              rintro e w3 ⟨rfl, ho3⟩
              have HI3 : Hid (Only (fun _ => False) w w3 ∧ Quad w.heap.size (.int .i64 t.k) (.int .i64 t.n) (.string t.s) (.slice ao t.l.length cap) w3 ∧ ItsP (w.heap.size + 1) oo oc (ownIts j) w3) := Lib.hid ⟨hI.out.1.same ho3, hI.out.2.1.only ho3 (fun e => e), hI.out.2.2.only ho3 (fun _ _ e => e)⟩
              clear ho3
              go_wp2_with (first
                | (at_builtin; refine wp_append_one liesIt rfl (.tmp 28) (.tmp 31) 22 rfl (w.heap.size + 1) 24 i0 _ 56 Try.underlying22 hi hz0 hz1 hz2 rfl (by omega) w3 oo oc (ownIts j) ⟨.mk 1 (j : Int) ⟨#[]⟩ [], none, 0⟩ [.int .i64 1, .int .i64 (j : Int), .string ⟨#[]⟩, .slice none 0 0] rfl (by rw [HLEN.out]; rfl) HI3.out.2.2 rfl (by rw [HLEN.out]; omega) (by have := HI3.out.1.size; have := lt_of_block HI3.out.2.1; omega) ?_; intro oo' oc' w5 hrow5 ho5 hnew5
                   rw [← ownIts_succ] at hrow5
                   rw [← ownIts_succ, ownIts_len]
                   have HI5 : Hid (Only (fun _ => False) w w5 ∧ Quad w.heap.size (.int .i64 t.k) (.int .i64 t.n) (.string t.s) (.slice ao t.l.length cap) w5 ∧ ItsP (w.heap.size + 1) oo' oc' (ownIts (j + 1)) w5) := Lib.hid ⟨Only.cut HI3.out.1 ho5 (by rintro k ⟨g, hg, e⟩; have := (HI3.out.2.2.head g hg).2.1; omega), HI3.out.2.1.only ho5 (by rintro ⟨g, hg, e⟩; have := (HI3.out.2.2.head g hg).2.1; omega), hrow5⟩
                   clear hrow5 ho5 hnew5)
                | fail)
              go_roundw
              case rel => exact ⟨j + 1, oo', oc', rfl, by go_num, by omega, HI5⟩
              case measure => simp [intOf]; omega
            · obtain rfl : j = N := by omega
              have HD0 : Hid (Only (fun _ => False) wr wr.drew) := Lib.hid (Only.drew _ _)
              have HK : Hid (∀ w', Only (fun _ => False) wr w' → w'.cell? ⟨w.heap.size, 0, none⟩ = some (.int .i64 t.k) ∧ w'.cell? ⟨w.heap.size, 1, none⟩ = some (.int .i64 t.n) ∧ w'.cell? ⟨w.heap.size, 2, none⟩ = some (.string t.s) ∧ w'.cell? ⟨w.heap.size, 3, none⟩ = some (.slice ao t.l.length cap)) := Lib.hid (fun w' ho => (hI.out.2.1.only ho (fun e => e)).cells)
              go_wp2_with fail
              go_region_held3 (fun w' => w'.cell? ⟨w.heap.size, 0, none⟩ = some (.int .i64 t.k) ∧ w'.cell? ⟨w.heap.size, 1, none⟩ = some (.int .i64 t.n) ∧ w'.cell? ⟨w.heap.size, 2, none⟩ = some (.string t.s) ∧ w'.cell? ⟨w.heap.size, 3, none⟩ = some (.slice ao t.l.length cap)) (first | exact HK.out _ HO5.out | exact HK.out _ HO4.out | exact HK.out _ HO3.out | exact HK.out _ HD0.out | go_keep) (first
                | (go_at_call 11; refine (HLV.out _).mono ?_; rintro e w3 ⟨rfl, ho3⟩; have HO3 : Hid (Only (fun _ => False) wr w3) := Lib.hid (HD0.out.same ho3); clear ho3)
                | (go_at_call 37; refine (HREP.out w3 oo oc (hI.out.1.same HO3.out) (ownIts_row (hI.out.2.2.only (S := fun _ => False) HO3.out (fun _ _ e => e)) (by omega))).mono ?_; rintro e w4 ⟨a4, c4, rfl, hl4, ho4⟩; have HO4 : Hid (Only (fun _ => False) wr w4) := Lib.hid (HO3.out.same ho4); have HL4 := Lib.hid hl4; clear ho4 hl4)
                | (go_at_call 12; refine (HEX.out w4 a4 c4 HL4.out (hI.out.1.same HO4.out)).mono ?_; rintro e w5 ⟨rfl, ho5⟩; have HO5 : Hid (Only (fun _ => False) wr w5) := Lib.hid (HO4.out.same ho5); clear ho5))
              go_wp2_with fail
              go_ret
              exact ⟨rfl, (hI.out.1.same HO5.out).to_below⟩
    · have hne : (rcheckF t == 0) = false := by simpa using hok
      go_enter Try.func9, Try.ntmps9
      go_wp2_with fail
      refine HLA.out.mono ?_
      rintro e w1 ⟨rfl, ho1⟩
      have HO1 := Lib.hid (HO0.out.same ho1)
      obtain ⟨c0, c1, c2, c3⟩ := (HQ0.out.only ho1 (fun e => e)).cells
      clear ho1 HLA
      go_wp2_with fail
      refine (HCK.out _ HO1.out).mono ?_
      rintro e w2 ⟨rfl, ho2⟩
      have HO2 := Lib.hid (HO1.out.same ho2)
      clear ho2 c0 c1 c2 c3
      go_wp2_with fail
      refine (HLV.out _).mono ?_
      rintro e w3 ⟨rfl, ho3⟩
      have HO3 := Lib.hid (HO2.out.same ho3)
      clear ho3
      go_wp2_with fail
      go_ret
      exact ⟨rfl, HO3.out.to_below⟩
end Go.Proofs.Ytdpbbcjlbnangaa.terms
