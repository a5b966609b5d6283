/- Tokens: a number's hex digits. -/
import Derived.Test.YtogccafnfpmgmaaDoorTokM
namespace Go.Proofs.YtogccafnfpmgmaaDoor.toks
open Go.RowKit Go.Proofs.YtogccafnfpmgmaaDoor.own
/-- What is asked of the table of zeros. -/
def Tabled (w : World) : Prop := w.cell? ⟨2, 15, none⟩ = some (.int .u8 4)
theorem tab_lt {w : World} (h : Tabled w) : 2 < w.heap.size := by
  rcases Nat.lt_or_ge 2 w.heap.size with h1 | h1
  · exact h1
  · unfold Tabled at h
    simp [World.cell?, Array.getElem?_eq_none h1] at h
theorem Tabled.later {w w' : World} (h : Tabled w) (ho : Only (fun _ => False) w w') : Tabled w' := (ho.cell (p := ⟨2, 15, none⟩) (tab_lt h) (fun e => e)).trans h
set_option maxRecDepth 100000 in
set_option maxHeartbeats 2000000 in
theorem zeros64 (w : World) (hT : Tabled w) : Calls Tryd.prog 72 #[.int .u64 16] w fun e w' => e = .returned (.int .i64 4) ∧ w' = w := by
  have hT2 : w.cell? ⟨2, (IntKind.u64.wrap (bits BinOp.and IntKind.u64 16 (IntKind.u64.wrap (-16)) * 285870213051353865) / 288230376151711744).toNat, none⟩ = some (.int .u8 4) := by
    rw [show (IntKind.u64.wrap (bits BinOp.and IntKind.u64 16 (IntKind.u64.wrap (-16)) * 285870213051353865) / 288230376151711744).toNat = 15 by kernel_rfl]
    exact hT
  go_enter Tryd.func72, Tryd.ntmps72
  go_wp2
  go_ret
  exact ⟨rfl, rfl⟩
theorem zeros (w : World) (hT : Tabled w) : Calls Tryd.prog 69 #[.int .u64 16] w fun e w' => e = .returned (.int .i64 4) ∧ w' = w := by
  go_enter Tryd.func69, Tryd.ntmps69
  go_wp2_with fail
  refine (zeros64 _ hT).mono ?_
  rintro e w1 ⟨rfl, rfl⟩
  go_wp2
  go_ret
  exact ⟨rfl, rfl⟩
theorem power (w : World) : Calls Tryd.prog 68 #[.int .i64 16] w fun e w' => e = .returned (.bool true) ∧ w' = w := by
  go_enter Tryd.func68, Tryd.ntmps68
  go_wp2
  go_ret
  exact ⟨rfl, rfl⟩
def digT (n : Nat) : UInt8 := if n < 10 then UInt8.ofNat (48 + n) else UInt8.ofNat (87 + n)
/-- A byte's hex digits. -/
def hexT (c : Nat) : List UInt8 := if c < 16 then [digT c] else [digT (c / 16), digT (c % 16)]
theorem index_dig (d : Nat) (hd : d < 16) (w : World) : (Instr.index 9 (.string { data := #[48, 49, 50, 51, 52, 53, 54, 55, 56, 57, 97, 98, 99, 100, 101, 102, 103, 104, 105, 106, 107, 108, 109, 110, 111, 112, 113, 114, 115, 116, 117, 118, 119, 120, 121, 122] }) (.int .u64 d)).run Tryd.prog w = .ok (.int .u8 (iv (digT d))) w := by
  obtain rfl | rfl | rfl | rfl | rfl | rfl | rfl | rfl | rfl | rfl | rfl | rfl | rfl | rfl | rfl | rfl : d = 0 ∨ d = 1 ∨ d = 2 ∨ d = 3 ∨ d = 4 ∨ d = 5 ∨ d = 6 ∨ d = 7 ∨ d = 8 ∨ d = 9 ∨ d = 10 ∨ d = 11 ∨ d = 12 ∨ d = 13 ∨ d = 14 ∨ d = 15 := by omega
  all_goals kernel_rfl
theorem and15 (c : Nat) (hc : c < 256) : bits BinOp.and IntKind.u64 (c : Int) 15 = ((c % 16 : Nat) : Int) := by
  have h : (List.range 256).all (fun d => decide (bits BinOp.and IntKind.u64 ((d : Nat) : Int) 15 = ((d % 16 : Nat) : Int))) = true := by kernel_rfl
  exact of_decide_eq_true (List.all_eq_true.1 h c (List.mem_range.2 hc))
theorem dig_get (d : Nat) (hd : d < 16) (hz : d < ({ data := #[48, 49, 50, 51, 52, 53, 54, 55, 56, 57, 97, 98, 99, 100, 101, 102, 103, 104, 105, 106, 107, 108, 109, 110, 111, 112, 113, 114, 115, 116, 117, 118, 119, 120, 121, 122] } : ByteArray).size) : (({ data := #[48, 49, 50, 51, 52, 53, 54, 55, 56, 57, 97, 98, 99, 100, 101, 102, 103, 104, 105, 106, 107, 108, 109, 110, 111, 112, 113, 114, 115, 116, 117, 118, 119, 120, 121, 122] } : ByteArray)[d].toNat : Int) = iv (digT d) := by
  obtain rfl | rfl | rfl | rfl | rfl | rfl | rfl | rfl | rfl | rfl | rfl | rfl | rfl | rfl | rfl | rfl : d = 0 ∨ d = 1 ∨ d = 2 ∨ d = 3 ∨ d = 4 ∨ d = 5 ∨ d = 6 ∨ d = 7 ∨ d = 8 ∨ d = 9 ∨ d = 10 ∨ d = 11 ∨ d = 12 ∨ d = 13 ∨ d = 14 ∨ d = 15 := by omega
  all_goals kernel_rfl
set_option maxRecDepth 100000 in
set_option maxHeartbeats 8000000 in
theorem formatBits_any (c : Nat) (hc : c < 256) (w : World) (hT : Tabled w) : Calls Tryd.prog 62 #[.slice none 0 0, .int .u64 c, .int .i64 16, .bool false, .bool false] w fun e w' => e = .returned (.tuple #[.slice none 0 0, .string (bstr (hexT c))]) ∧ Only (fun _ => False) w w' := by
  have HZ : Hid (∀ W, Only (fun _ => False) w W → Calls Tryd.prog 69 #[.int .u64 16] W fun e w' => e = .returned (.int .i64 4) ∧ w' = W) := Lib.hid (fun W ho => zeros W (hT.later ho))
  have HO0 : Hid (∀ o, Only (fun _ => False) w (w.alloc o)) := Lib.hid (fun o => Only.alloc _ _ _)
  clear hT
  go_enter Tryd.func62, Tryd.ntmps62
  go_wp2_with fail
  refine (power _).mono ?_
  rintro e w1 ⟨rfl, rfl⟩
  go_wp2_with fail
  refine (HZ.out _ (HO0.out _)).mono ?_
  rintro e w1 ⟨rfl, rfl⟩
  go_wp2_with fail
  by_cases hlt : c < 16
  · have h1 : ¬ (16 : Int) ≤ (c : Int) := by omega
    have hx0 := index_dig c hlt
    refine wp_loop_rounds 1 ?_
    rw [rounds_succ]
    have hcv : (convert 22 9 (.slice (some ⟨w.heap.size, 64, none⟩) 1 1)).run Tryd.prog (w.alloc (.cells (Tryd.zeroCells84.setIfInBounds 64 (.int .u8 (iv (digT c)))) 84)) = .ok (.string (bstr [digT c])) (w.alloc (.cells (Tryd.zeroCells84.setIfInBounds 64 (.int .u8 (iv (digT c)))) 84)) := by
      refine run_bytes _ w.heap.size 64 1 [digT c] (fun k x hx => ?_)
      obtain ⟨rfl, rfl⟩ : k = 0 ∧ x = digT c := by
        match k, hx with
        | 0, hx => exact ⟨rfl, (Option.some.inj hx).symm⟩
        | k + 1, hx => cases hx
      rw [cell_of_blk (heap_alloc_new w _)]
      rfl
    go_wp2_with fail
    go_ret2
    refine ⟨?_, HO0.out _⟩
    unfold hexT
    rw [if_pos hlt]
    rfl
  · have h1 : (16 : Int) ≤ (c : Int) := by omega
    have HX : Hid (hexT c = [digT (c / 16), digT (c % 16)]) := Lib.hid (by unfold hexT; rw [if_neg hlt])
    have hx0 := index_dig (c % 16) (by omega)
    have hx1 := index_dig (c / 16) (by omega)
    have ha := and15 c hc
    have hdv : ((c : Int) / 16) = ((c / 16 : Nat) : Int) := by omega
    have h2 : ¬ (16 : Int) ≤ ((c / 16 : Nat) : Int) := by omega
    generalize c % 16 = d at *
    generalize c / 16 = q at *
    have hcv : (convert 22 9 (.slice (some ⟨w.heap.size, 63, none⟩) 2 2)).run Tryd.prog (w.alloc (.cells ((Tryd.zeroCells84.setIfInBounds 64 (.int .u8 (iv (digT d)))).setIfInBounds 63 (.int .u8 (iv (digT q)))) 84)) = .ok (.string (bstr [digT q, digT d])) (w.alloc (.cells ((Tryd.zeroCells84.setIfInBounds 64 (.int .u8 (iv (digT d)))).setIfInBounds 63 (.int .u8 (iv (digT q)))) 84)) := by
      refine run_bytes _ w.heap.size 63 2 [digT q, digT d] (fun k x hx => ?_)
      rw [cell_of_blk (heap_alloc_new w _)]
      match k, hx with
      | 0, hx => cases hx; rfl
      | 1, hx => cases hx; rfl
      | k + 2, hx => cases hx
    refine wp_loop_rounds 2 ?_
    rw [rounds_succ]
    go_wp2_with fail
    rw [rounds_succ]
    go_wp2_with fail
    go_ret2
    exact ⟨by rw [HX.out]; rfl, HO0.out _⟩
set_option maxRecDepth 100000 in
set_option maxHeartbeats 4000000 in
theorem formatI_any (c : Nat) (hc : c < 256) (w : World) (hT : Tabled w) : Calls Tryd.prog 55 #[.int .i64 c, .int .i64 16] w fun e w' => e = .returned (.string (bstr (hexT c))) ∧ Only (fun _ => False) w w' := by
  have hn : ¬ (c : Int) < 0 := by omega
  go_enter Tryd.func55, Tryd.ntmps55
  go_wp2_with fail
  refine (formatBits_any c hc _ hT).mono ?_
  rintro e w1 ⟨rfl, ho⟩
  go_wp2_with fail
  go_ret
  exact ⟨rfl, ho⟩
theorem formatInt_any (c : Nat) (hc : c < 256) (w : World) (hT : Tabled w) : Calls Tryd.prog 35 #[.int .i64 c, .int .i64 16] w fun e w' => e = .returned (.string (bstr (hexT c))) ∧ Only (fun _ => False) w w' := by
  go_enter Tryd.func35, Tryd.ntmps35
  go_wp2_with fail
  refine (formatI_any c hc _ hT).mono ?_
  rintro e w1 ⟨rfl, ho⟩
  go_wp2_with fail
  go_ret
  exact ⟨rfl, ho⟩
theorem bstr_append (a b : List UInt8) : bstr a ++ bstr b = bstr (a ++ b) := by
  apply ByteArray.ext
  simp [bstr]
theorem hexT_len (c : Nat) : (hexT c).length ≤ 2 := by unfold hexT; split <;> simp
/-- What stands between quotes for a sign that may not stand there itself. -/
def escR (c : Int) : List UInt8 := if (c == 39) = true then [92, 39] else if (c == 92) = true then [92, 92] else if (c == 10) = true then [92, 110] else if (c == 9) = true then [92, 116] else if ctrlB c = true then 92 :: 120 :: (hexT c.toNat ++ [92]) else []
set_option maxRecDepth 100000 in
set_option maxHeartbeats 8000000 in
theorem escaped_any (c : Int) (h0 : 0 ≤ c) (hc : c ≤ 2147483647) (w : World) (hT : Tabled w) : Calls Tryd.prog 18 #[.int .i32 c] w fun e w' => e = .returned (.string (bstr (escR c))) ∧ Only (fun _ => False) w w' := by
  have hw : wrap64 c = c := by unfold wrap64; omega
  cases h39 : (c == 39) with
  | true =>
    have hr : escR c = [92, 39] := by unfold escR; rw [if_pos h39]
    rw [beq_iff_eq] at h39
    subst h39
    go_enter Tryd.func18, Tryd.ntmps18
    go_wp2_with fail
    go_ret
    exact ⟨by rw [hr]; kernel_rfl, Only.refl _ _⟩
  | false =>
    cases h92 : (c == 92) with
    | true =>
      have hr : escR c = [92, 92] := by unfold escR; rw [if_neg (by rw [h39]; decide), if_pos h92]
      rw [beq_iff_eq] at h92
      subst h92
      go_enter Tryd.func18, Tryd.ntmps18
      go_wp2_with fail
      go_ret
      exact ⟨by rw [hr]; kernel_rfl, Only.refl _ _⟩
    | false =>
      cases h10 : (c == 10) with
      | true =>
        have hr : escR c = [92, 110] := by unfold escR; rw [if_neg (by rw [h39]; decide), if_neg (by rw [h92]; decide), if_pos h10]
        go_enter Tryd.func18, Tryd.ntmps18
        go_wp2_with fail
        go_ret
        exact ⟨by rw [hr]; rfl, Only.refl _ _⟩
      | false =>
        cases h9 : (c == 9) with
        | true =>
          have hr : escR c = [92, 116] := by unfold escR; rw [if_neg (by rw [h39]; decide), if_neg (by rw [h92]; decide), if_neg (by rw [h10]; decide), if_pos h9]
          go_enter Tryd.func18, Tryd.ntmps18
          go_wp2_with fail
          go_ret
          exact ⟨by rw [hr]; rfl, Only.refl _ _⟩
        | false =>
          cases hk : ctrlB c with
          | true =>
            have hr : Hid (escR c = 92 :: 120 :: (hexT c.toNat ++ [92])) := Lib.hid (by unfold escR; rw [if_neg (by rw [h39]; decide), if_neg (by rw [h92]; decide), if_neg (by rw [h10]; decide), if_neg (by rw [h9]; decide), if_pos hk])
            have hlt : c < 256 := by
              unfold ctrlB at hk
              rcases Bool.or_eq_true _ _ ▸ hk with h1 | h1
              · have := of_decide_eq_true h1; omega
              · rw [beq_iff_eq] at h1; omega
            obtain ⟨n, rfl⟩ : ∃ n : Nat, c = n := ⟨c.toNat, by omega⟩
            have HK := isControl_any (n : Int)
            rw [hk] at HK
            have hl2 := hexT_len n
            have hq1 : ¬ 9223372036854775807 < 2 + (hexT n).length := by omega
            have hq2 : ¬ 9223372036854775807 < 2 + (hexT n).length + 1 := by omega
            clear hl2
            have HF := Lib.hid (formatInt_any n (by omega) w hT)
            go_enter Tryd.func18, Tryd.ntmps18
            go_wp2_with fail
            refine (HK _).mono ?_
            rintro e w1 ⟨rfl, rfl⟩
            go_wp2_with fail
            refine HF.out.mono ?_
            rintro e w1 ⟨rfl, ho⟩
            go_wp2_with fail
            go_ret
            refine ⟨?_, ho⟩
            rw [hr.out, show (92 : UInt8) :: 120 :: (hexT (n : Int).toNat ++ [92]) = [92, 120] ++ hexT n ++ [92] from rfl, ← bstr_append, ← bstr_append]
            rfl
          | false =>
            have hr : escR c = [] := by unfold escR; rw [if_neg (by rw [h39]; decide), if_neg (by rw [h92]; decide), if_neg (by rw [h10]; decide), if_neg (by rw [h9]; decide), if_neg (by rw [hk]; decide)]
            have HK := isControl_any c
            rw [hk] at HK
            go_enter Tryd.func18, Tryd.ntmps18
            go_wp2_with fail
            refine (HK _).mono ?_
            rintro e w1 ⟨rfl, rfl⟩
            go_wp2_with fail
            go_ret
            exact ⟨by rw [hr]; rfl, Only.refl _ _⟩
end Go.Proofs.YtogccafnfpmgmaaDoor.toks
