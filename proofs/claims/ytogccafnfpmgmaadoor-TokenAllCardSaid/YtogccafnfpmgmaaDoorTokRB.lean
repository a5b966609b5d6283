/- Tokens: the reference's token that begins at a place: points, digits, quotes, and none. -/
import Derived.Test.YtogccafnfpmgmaaDoorTokRA
namespace Go.Proofs.YtogccafnfpmgmaaDoor.toks
open Go.RowKit Go.Proofs.YtogccafnfpmgmaaDoor.own
set_option maxRecDepth 100000 in
set_option maxHeartbeats 8000000 in
theorem one_dot (b off cap : Nat) (bs : List UInt8) (i : Nat) (x : UInt8) (w : World) (hb : Byts (some ⟨b, off, none⟩) bs w) (hi : i < bs.length) (hl : bs.length ≤ 1000000) (hc : bs.length ≤ cap) (hx : bs[i]? = some x) (hi1 : i + 1 < bs.length) (hyb : ∀ y, bs[i + 1]? = some y → blankB (iv y) = false) (hy37 : ∀ y, bs[i + 1]? = some y → (iv y == 37) = false) (hcond : (iv x == 46) = true) :
    Calls Tryd.prog 32 #[.slice (some ⟨b, off, none⟩) bs.length cap, .int .i64 i] w fun e w' => e = .returned (ansO i (nameF 1 signB (bs.drop i))) ∧ Only (fun _ => False) w w' := by
  obtain ⟨b', off', he, hb1, c0⟩ := hb i x hx
  cases he
  have ho0 : Only (fun _ => False) w (w.alloc (.cells #[.int .i64 0, .string ⟨#[]⟩, .int .i64 0, .int .i64 0, .bool false] 30)) := Only.alloc _ _ _
  have c0' := (ho0.cell (p := ⟨b, off + i, none⟩) hb1 (fun e => e)).trans c0
  have hk := byte_all (fun x => !(iv x == 46) || (!(smallB (iv x)) && (signB (iv x)))) (by kernel_rfl) x
  simp only [hcond, Bool.not_true, Bool.false_or, Bool.and_eq_true, Bool.not_eq_true'] at hk
  obtain ⟨h_small, h_sign⟩ := hk
  have h_46 := hcond
  have HSM : Hid (∀ W, Calls Tryd.prog 26 #[.int .u8 (iv x)] W fun e w' => e = .returned (.bool false) ∧ w' = W) := Lib.hid (fun W => by have h := rsmall_any (iv x) W; rwa [h_small] at h)
  have HSG : Hid (∀ W, Calls Tryd.prog 28 #[.int .u8 (iv x)] W fun e w' => e = .returned (.bool true) ∧ w' = W) := Lib.hid (fun W => by have h := rsign_any x W; rwa [h_sign] at h)
  obtain ⟨y, hy⟩ : ∃ y, bs[i + 1]? = some y := ⟨_, List.getElem?_eq_getElem hi1⟩
  obtain ⟨b', off', he, hb2, c1⟩ := hb (i + 1) y hy
  cases he
  have c1' := ((two_only w (.cells #[.int .i64 0, .string ⟨#[]⟩, .int .i64 0, .int .i64 0, .bool false] 30) (.cells #[.int .i64 0, .string ⟨#[]⟩, .int .i64 0, .int .i64 i, .bool false] 30)).cell (p := ⟨b, off + (i + 1), none⟩) hb2 (fun e => e)).trans c1
  have HBL : Hid (∀ W, Calls Tryd.prog 50 #[.int .u8 (iv y)] W fun e w' => e = .returned (.bool false) ∧ w' = W) := Lib.hid (fun W => by have h := rblank_any (iv y) W; rwa [hyb y hy] at h)
  have r0 : (0 : Int) ≤ (i : Int) + 1 := by omega
  have r1 : (i : Int) + 1 < (bs.length : Int) := by omega
  have r2 : ((i : Int) + 1).toNat = i + 1 := by omega
  have r3 : (((i : Int) + 1) == (bs.length : Int)) = false := by rw [beq_eq_false_iff_ne]; omega
  have h37 := hy37 y hy
  have hle := rowN_le signB (bs.drop i)
  rw [List.length_drop] at hle
  have HRW : Hid (∀ W, Only (fun _ => False) w W → Calls Tryd.prog 51 #[.slice (some ⟨b, off, none⟩) bs.length cap, .int .i64 i, .int .i64 2] W fun e w' => e = .returned (.int .i64 (i + rowN signB (bs.drop i) : Nat)) ∧ w' = W) := Lib.hid (fun W ho => rrow2_any _ cap bs i W (hb.later ho) (by omega) hl)
  have HRO := Lib.hid (HRW.out _ (two_only w (.cells #[.int .i64 0, .string ⟨#[]⟩, .int .i64 0, .int .i64 0, .bool false] 30) (.cells #[.int .i64 1, .string ⟨#[]⟩, .int .i64 0, .int .i64 i, .bool false] 30)))
  have HNF : Hid (nameF 1 signB (bs.drop i) = if 64 < rowN signB (bs.drop i) then .no 3 else .ok 1 ((bs.drop i).take (rowN signB (bs.drop i))) 0 (rowN signB (bs.drop i))) := Lib.hid rfl
  generalize nameF 1 signB (bs.drop i) = NF at *
  generalize rowN signB (bs.drop i) = n at *
  have hcv := run_part (i := i) (n := n) (c := cap - i) (hb.later (two_only w (.cells #[.int .i64 0, .string ⟨#[]⟩, .int .i64 0, .int .i64 0, .bool false] 30) (.cells #[.int .i64 1, .string ⟨#[]⟩, .int .i64 0, .int .i64 i, .bool false] 30))) (by omega)
  have hsz := bstr_size ((bs.drop i).take n)
  rw [take_len (by omega)] at hsz
  have q0 : (0 : Int) ≤ (i : Int) := by omega
  have q1 : (i : Int) < (bs.length : Int) := by omega
  have q1b : (i : Int) + (n : Int) ≤ (bs.length : Int) := by omega
  have q2 : (i : Int) ≤ (i : Int) + (n : Int) := by omega
  have q3 : ((i : Int) + (n : Int)).toNat = i + n := by omega
  have q4 : i + n ≤ cap := by omega
  have hsub : i + n - i = n := by omega
  have hF1 : Hid (∀ A, ((w.alloc (.cells #[.int .i64 0, .string ⟨#[]⟩, .int .i64 0, .int .i64 0, .bool false] 30)).alloc A).heap[w.heap.size]? = some (.cells #[.int .i64 0, .string ⟨#[]⟩, .int .i64 0, .int .i64 0, .bool false] 30)) := Lib.hid (fun A => first_of _ _ _)
  have hF2 : Hid (∀ A S, ((w.alloc (.cells #[.int .i64 1, .string S, .int .i64 0, .int .i64 i, .bool false] 30)).alloc A).heap[w.heap.size]? = some (.cells #[.int .i64 1, .string S, .int .i64 0, .int .i64 i, .bool false] 30)) := Lib.hid (fun A S => first_of _ _ _)
  generalize hS : bstr ((bs.drop i).take n) = S at *
  have HS := Lib.hid hS
  clear hb hx c0 ho0 h_small h_sign hcond hy hb2 c1 hS HRW hle
  by_cases h64 : 64 < n
  · have g64 : (64 : Int) < (n : Int) := by omega
    have HN : Hid (NF = .no 3) := Lib.hid (by rw [HNF.out, if_pos h64])
    clear HNF h64
    go_enter Tryd.func32, Tryd.ntmps32
    go_wp2_with fail
    refine (HBL.out _).mono ?_
    rintro e w1 ⟨rfl, rfl⟩
    go_wp2_with fail
    refine (HSM.out _).mono ?_
    rintro e w1 ⟨rfl, rfl⟩
    go_wp2_with fail
    refine (HSG.out _).mono ?_
    rintro e w1 ⟨rfl, rfl⟩
    go_wp2_with fail
    refine HRO.out.mono ?_
    rintro e w1 ⟨rfl, rfl⟩
    go_wp2_with fail
    refine bodyPost_ret (v := ansO i (.no 3)) (results_tok rfl _ _ w.heap.size _ _ _ _ _ _ _ rfl rfl rfl (hF1.out _)) rfl ?_
    exact ⟨by rw [HN.out], two_only _ _ _⟩
  · have g64 : ¬ (64 : Int) < (n : Int) := by omega
    have HN : Hid (NF = .ok 1 ((bs.drop i).take n) 0 n) := Lib.hid (by rw [HNF.out, if_neg h64])
    clear HNF h64
    go_enter Tryd.func32, Tryd.ntmps32
    go_wp2_with fail
    refine (HBL.out _).mono ?_
    rintro e w1 ⟨rfl, rfl⟩
    go_wp2_with fail
    refine (HSM.out _).mono ?_
    rintro e w1 ⟨rfl, rfl⟩
    go_wp2_with fail
    refine (HSG.out _).mono ?_
    rintro e w1 ⟨rfl, rfl⟩
    go_wp2_with fail
    refine HRO.out.mono ?_
    rintro e w1 ⟨rfl, rfl⟩
    go_wp2_with fail
    refine bodyPost_ret (v := .tuple #[tokV 1 S 0 i false, .int .i64 (i + n : Nat), .int .i64 0]) (results_tok rfl _ _ w.heap.size _ _ _ _ _ _ _ rfl rfl rfl (hF2.out _ _)) rfl ?_
    exact ⟨by rw [HN.out, ← HS.out]; rfl, two_only _ _ _⟩
set_option maxRecDepth 100000 in
set_option maxHeartbeats 8000000 in
theorem one_end1 (b off cap : Nat) (bs : List UInt8) (i : Nat) (x : UInt8) (w : World) (hb : Byts (some ⟨b, off, none⟩) bs w) (hi : i < bs.length) (hl : bs.length ≤ 1000000) (hc : bs.length ≤ cap) (hx : bs[i]? = some x) (hi1 : ¬ i + 1 < bs.length) (hcond : (iv x == 46) = true) :
    Calls Tryd.prog 32 #[.slice (some ⟨b, off, none⟩) bs.length cap, .int .i64 i] w fun e w' => e = .returned (ansO i (.ok 6 [x] 0 1)) ∧ Only (fun _ => False) w w' := by
  obtain ⟨b', off', he, hb1, c0⟩ := hb i x hx
  cases he
  have ho0 : Only (fun _ => False) w (w.alloc (.cells #[.int .i64 0, .string ⟨#[]⟩, .int .i64 0, .int .i64 0, .bool false] 30)) := Only.alloc _ _ _
  have c0' := (ho0.cell (p := ⟨b, off + i, none⟩) hb1 (fun e => e)).trans c0
  have h_46 := hcond
  have r3 : (((i : Int) + 1) == (bs.length : Int)) = true := by rw [beq_iff_eq]; omega
  have hcv := run_part (i := i) (n := 1) (c := cap - i) (hb.later (two_only w (.cells #[.int .i64 0, .string ⟨#[]⟩, .int .i64 0, .int .i64 0, .bool false] 30) (.cells #[.int .i64 6, .string ⟨#[46]⟩, .int .i64 0, .int .i64 i, .bool false] 30))) (by omega)
  rw [take_one hx] at hcv
  have hsz := bstr_size [x]
  rw [List.length_singleton] at hsz
  have q0 : (0 : Int) ≤ (i : Int) := by omega
  have q1 : (i : Int) < (bs.length : Int) := by omega
  have q2 : (i : Int) + 1 ≤ (bs.length : Int) := by omega
  have q3 : ((i : Int) + 1).toNat = i + 1 := by omega
  have q4 : i + 1 ≤ cap := by omega
  have hF : Hid (((w.alloc (.cells #[.int .i64 6, .string (bstr [x]), .int .i64 0, .int .i64 i, .bool false] 30)).alloc (.cells #[.int .i64 6, .string (bstr [x]), .int .i64 0, .int .i64 i, .bool false] 30)).heap[w.heap.size]? = some (.cells #[.int .i64 6, .string (bstr [x]), .int .i64 0, .int .i64 i, .bool false] 30)) := Lib.hid (first_of _ _ _)
  generalize hS : bstr [x] = S at *
  have bstr_S : Hid (bstr [x] = S) := Lib.hid hS
  clear hb hx c0 ho0 hcond hS
  go_enter Tryd.func32, Tryd.ntmps32
  go_wp2_with fail
  refine bodyPost_ret (v := .tuple #[tokV 6 S 0 i false, .int .i64 (i + 1 : Nat), .int .i64 0]) (results_tok rfl _ _ w.heap.size _ _ _ _ _ _ _ rfl rfl rfl hF.out) rfl ?_
  exact ⟨by rw [← bstr_S.out]; rfl, two_only _ _ _⟩
set_option maxRecDepth 100000 in
set_option maxHeartbeats 8000000 in
theorem one_end2 (b off cap : Nat) (bs : List UInt8) (i : Nat) (x : UInt8) (w : World) (hb : Byts (some ⟨b, off, none⟩) bs w) (hi : i < bs.length) (hl : bs.length ≤ 1000000) (hc : bs.length ≤ cap) (hx : bs[i]? = some x) (hi1 : i + 1 < bs.length) (hyb : ∀ y, bs[i + 1]? = some y → blankB (iv y) = true) (hcond : (iv x == 46) = true) :
    Calls Tryd.prog 32 #[.slice (some ⟨b, off, none⟩) bs.length cap, .int .i64 i] w fun e w' => e = .returned (ansO i (.ok 6 [x] 0 1)) ∧ Only (fun _ => False) w w' := by
  obtain ⟨b', off', he, hb1, c0⟩ := hb i x hx
  cases he
  have ho0 : Only (fun _ => False) w (w.alloc (.cells #[.int .i64 0, .string ⟨#[]⟩, .int .i64 0, .int .i64 0, .bool false] 30)) := Only.alloc _ _ _
  have c0' := (ho0.cell (p := ⟨b, off + i, none⟩) hb1 (fun e => e)).trans c0
  have h_46 := hcond
  obtain ⟨y, hy⟩ : ∃ y, bs[i + 1]? = some y := ⟨_, List.getElem?_eq_getElem hi1⟩
  obtain ⟨b', off', he, hb2, c1⟩ := hb (i + 1) y hy
  cases he
  have c1' := ((two_only w (.cells #[.int .i64 0, .string ⟨#[]⟩, .int .i64 0, .int .i64 0, .bool false] 30) (.cells #[.int .i64 0, .string ⟨#[]⟩, .int .i64 0, .int .i64 i, .bool false] 30)).cell (p := ⟨b, off + (i + 1), none⟩) hb2 (fun e => e)).trans c1
  have HBL : Hid (∀ W, Calls Tryd.prog 50 #[.int .u8 (iv y)] W fun e w' => e = .returned (.bool true) ∧ w' = W) := Lib.hid (fun W => by have h := rblank_any (iv y) W; rwa [hyb y hy] at h)
  have r0 : (0 : Int) ≤ (i : Int) + 1 := by omega
  have r1 : (i : Int) + 1 < (bs.length : Int) := by omega
  have r2 : ((i : Int) + 1).toNat = i + 1 := by omega
  have r3 : (((i : Int) + 1) == (bs.length : Int)) = false := by rw [beq_eq_false_iff_ne]; omega
  have hcv := run_part (i := i) (n := 1) (c := cap - i) (hb.later (two_only w (.cells #[.int .i64 0, .string ⟨#[]⟩, .int .i64 0, .int .i64 0, .bool false] 30) (.cells #[.int .i64 6, .string ⟨#[46]⟩, .int .i64 0, .int .i64 i, .bool false] 30))) (by omega)
  rw [take_one hx] at hcv
  have hsz := bstr_size [x]
  rw [List.length_singleton] at hsz
  have q0 : (0 : Int) ≤ (i : Int) := by omega
  have q1 : (i : Int) < (bs.length : Int) := by omega
  have q2 : (i : Int) + 1 ≤ (bs.length : Int) := by omega
  have q3 : ((i : Int) + 1).toNat = i + 1 := by omega
  have q4 : i + 1 ≤ cap := by omega
  have hF : Hid (((w.alloc (.cells #[.int .i64 6, .string (bstr [x]), .int .i64 0, .int .i64 i, .bool false] 30)).alloc (.cells #[.int .i64 6, .string (bstr [x]), .int .i64 0, .int .i64 i, .bool false] 30)).heap[w.heap.size]? = some (.cells #[.int .i64 6, .string (bstr [x]), .int .i64 0, .int .i64 i, .bool false] 30)) := Lib.hid (first_of _ _ _)
  generalize hS : bstr [x] = S at *
  have bstr_S : Hid (bstr [x] = S) := Lib.hid hS
  clear hb hx c0 ho0 hcond hy hb2 c1 hS
  go_enter Tryd.func32, Tryd.ntmps32
  go_wp2_with fail
  refine (HBL.out _).mono ?_
  rintro e w1 ⟨rfl, rfl⟩
  go_wp2_with fail
  refine bodyPost_ret (v := .tuple #[tokV 6 S 0 i false, .int .i64 (i + 1 : Nat), .int .i64 0]) (results_tok rfl _ _ w.heap.size _ _ _ _ _ _ _ rfl rfl rfl hF.out) rfl ?_
  exact ⟨by rw [← bstr_S.out]; rfl, two_only _ _ _⟩
set_option maxRecDepth 100000 in
set_option maxHeartbeats 8000000 in
theorem one_end3 (b off cap : Nat) (bs : List UInt8) (i : Nat) (x : UInt8) (w : World) (hb : Byts (some ⟨b, off, none⟩) bs w) (hi : i < bs.length) (hl : bs.length ≤ 1000000) (hc : bs.length ≤ cap) (hx : bs[i]? = some x) (hi1 : i + 1 < bs.length) (hyb : ∀ y, bs[i + 1]? = some y → blankB (iv y) = false) (hy37 : ∀ y, bs[i + 1]? = some y → (iv y == 37) = true) (hcond : (iv x == 46) = true) :
    Calls Tryd.prog 32 #[.slice (some ⟨b, off, none⟩) bs.length cap, .int .i64 i] w fun e w' => e = .returned (ansO i (.ok 6 [x] 0 1)) ∧ Only (fun _ => False) w w' := by
  obtain ⟨b', off', he, hb1, c0⟩ := hb i x hx
  cases he
  have ho0 : Only (fun _ => False) w (w.alloc (.cells #[.int .i64 0, .string ⟨#[]⟩, .int .i64 0, .int .i64 0, .bool false] 30)) := Only.alloc _ _ _
  have c0' := (ho0.cell (p := ⟨b, off + i, none⟩) hb1 (fun e => e)).trans c0
  have h_46 := hcond
  obtain ⟨y, hy⟩ : ∃ y, bs[i + 1]? = some y := ⟨_, List.getElem?_eq_getElem hi1⟩
  obtain ⟨b', off', he, hb2, c1⟩ := hb (i + 1) y hy
  cases he
  have c1' := ((two_only w (.cells #[.int .i64 0, .string ⟨#[]⟩, .int .i64 0, .int .i64 0, .bool false] 30) (.cells #[.int .i64 0, .string ⟨#[]⟩, .int .i64 0, .int .i64 i, .bool false] 30)).cell (p := ⟨b, off + (i + 1), none⟩) hb2 (fun e => e)).trans c1
  have HBL : Hid (∀ W, Calls Tryd.prog 50 #[.int .u8 (iv y)] W fun e w' => e = .returned (.bool false) ∧ w' = W) := Lib.hid (fun W => by have h := rblank_any (iv y) W; rwa [hyb y hy] at h)
  have r0 : (0 : Int) ≤ (i : Int) + 1 := by omega
  have r1 : (i : Int) + 1 < (bs.length : Int) := by omega
  have r2 : ((i : Int) + 1).toNat = i + 1 := by omega
  have r3 : (((i : Int) + 1) == (bs.length : Int)) = false := by rw [beq_eq_false_iff_ne]; omega
  have h37 := hy37 y hy
  have hcv := run_part (i := i) (n := 1) (c := cap - i) (hb.later (two_only w (.cells #[.int .i64 0, .string ⟨#[]⟩, .int .i64 0, .int .i64 0, .bool false] 30) (.cells #[.int .i64 6, .string ⟨#[46]⟩, .int .i64 0, .int .i64 i, .bool false] 30))) (by omega)
  rw [take_one hx] at hcv
  have hsz := bstr_size [x]
  rw [List.length_singleton] at hsz
  have q0 : (0 : Int) ≤ (i : Int) := by omega
  have q1 : (i : Int) < (bs.length : Int) := by omega
  have q2 : (i : Int) + 1 ≤ (bs.length : Int) := by omega
  have q3 : ((i : Int) + 1).toNat = i + 1 := by omega
  have q4 : i + 1 ≤ cap := by omega
  have hF : Hid (((w.alloc (.cells #[.int .i64 6, .string (bstr [x]), .int .i64 0, .int .i64 i, .bool false] 30)).alloc (.cells #[.int .i64 6, .string (bstr [x]), .int .i64 0, .int .i64 i, .bool false] 30)).heap[w.heap.size]? = some (.cells #[.int .i64 6, .string (bstr [x]), .int .i64 0, .int .i64 i, .bool false] 30)) := Lib.hid (first_of _ _ _)
  generalize hS : bstr [x] = S at *
  have bstr_S : Hid (bstr [x] = S) := Lib.hid hS
  clear hb hx c0 ho0 hcond hy hb2 c1 hS
  go_enter Tryd.func32, Tryd.ntmps32
  go_wp2_with fail
  refine (HBL.out _).mono ?_
  rintro e w1 ⟨rfl, rfl⟩
  go_wp2_with fail
  refine bodyPost_ret (v := .tuple #[tokV 6 S 0 i false, .int .i64 (i + 1 : Nat), .int .i64 0]) (results_tok rfl _ _ w.heap.size _ _ _ _ _ _ _ rfl rfl rfl hF.out) rfl ?_
  exact ⟨by rw [← bstr_S.out]; rfl, two_only _ _ _⟩
set_option maxRecDepth 100000 in
set_option maxHeartbeats 8000000 in
theorem one_digit (b off cap : Nat) (bs : List UInt8) (i : Nat) (x : UInt8) (w : World) (hb : Byts (some ⟨b, off, none⟩) bs w) (hi : i < bs.length) (hl : bs.length ≤ 1000000) (hc : bs.length ≤ cap) (hx : bs[i]? = some x) (hcond : digB (iv x) = true) :
    Calls Tryd.prog 32 #[.slice (some ⟨b, off, none⟩) bs.length cap, .int .i64 i] w fun e w' => e = .returned (ansO i (numberF (bs.drop i))) ∧ Only (fun _ => False) w w' := by
  obtain ⟨b', off', he, hb1, c0⟩ := hb i x hx
  cases he
  have ho0 : Only (fun _ => False) w (w.alloc (.cells #[.int .i64 0, .string ⟨#[]⟩, .int .i64 0, .int .i64 0, .bool false] 30)) := Only.alloc _ _ _
  have c0' := (ho0.cell (p := ⟨b, off + i, none⟩) hb1 (fun e => e)).trans c0
  have hk := byte_all (fun x => !(digB (iv x)) || (!(iv x == 46) && !(smallB (iv x)) && !(signB (iv x)) && !(iv x == 33) && !(iv x == 59) && (decide (48 ≤ iv x)) && (decide (iv x ≤ 57)))) (by kernel_rfl) x
  simp only [hcond, Bool.not_true, Bool.false_or, Bool.and_eq_true, Bool.not_eq_true'] at hk
  obtain ⟨⟨⟨⟨⟨⟨h_46, h_small⟩, h_sign⟩, h_33⟩, h_59⟩, g48⟩, g57⟩ := hk
  have HSM : Hid (∀ W, Calls Tryd.prog 26 #[.int .u8 (iv x)] W fun e w' => e = .returned (.bool false) ∧ w' = W) := Lib.hid (fun W => by have h := rsmall_any (iv x) W; rwa [h_small] at h)
  have HSG : Hid (∀ W, Calls Tryd.prog 28 #[.int .u8 (iv x)] W fun e w' => e = .returned (.bool false) ∧ w' = W) := Lib.hid (fun W => by have h := rsign_any x W; rwa [h_sign] at h)
  simp only [decide_eq_true_eq] at g48 g57
  have hle := rowN_le digB (bs.drop i)
  rw [List.length_drop] at hle
  have HRW : Hid (∀ W, Only (fun _ => False) w W → Calls Tryd.prog 51 #[.slice (some ⟨b, off, none⟩) bs.length cap, .int .i64 i, .int .i64 3] W fun e w' => e = .returned (.int .i64 (i + rowN digB (bs.drop i) : Nat)) ∧ w' = W) := Lib.hid (fun W ho => rrow3_any _ cap bs i W (hb.later ho) (by omega) hl)
  have HRO := Lib.hid (HRW.out _ (two_only w (.cells #[.int .i64 0, .string ⟨#[]⟩, .int .i64 0, .int .i64 0, .bool false] 30) (.cells #[.int .i64 4, .string ⟨#[]⟩, .int .i64 0, .int .i64 i, .bool false] 30)))
  have HNF : Hid (numberF (bs.drop i) = match numN 0 ((bs.drop i).take (rowN digB (bs.drop i))) with | some v => .ok 4 [] v (rowN digB (bs.drop i)) | none => .no 81) := Lib.hid rfl
  have HDG : ((bs.drop i).take (rowN digB (bs.drop i))).all (fun b => digB (iv b)) = true := List.all_eq_true.2 (fun y hy => by
    obtain ⟨k, hk⟩ := List.getElem?_of_mem hy
    rw [List.getElem?_take] at hk
    split at hk
    · exact row_all digB (bs.drop i) k y ‹_› hk
    · cases hk)
  generalize numberF (bs.drop i) = NF at *
  generalize rowN digB (bs.drop i) = n at *
  have HNU : Hid (∀ W c, Only (fun _ => False) w W → Calls Tryd.prog 52 #[.slice (some ⟨b, off + i, none⟩) n c] W fun e w' => e = .returned (.int .i64 (numR ((bs.drop i).take n))) ∧ w' = W) := Lib.hid (fun W c ho => by
    have hby : Byts (some ⟨b, off + i, none⟩) ((bs.drop i).take n) W := fun k y hk => by
      rw [List.getElem?_take] at hk
      split at hk
      · exact (Byts.drop (hb.later ho) i) k y hk
      · cases hk
    have h := rnumber_any _ c _ W hby (by rw [take_len (by omega)]; omega) HDG
    rw [take_len (by omega)] at h
    exact h)
  have HNO := Lib.hid (HNU.out _ (cap - i) (two_only w (.cells #[.int .i64 0, .string ⟨#[]⟩, .int .i64 0, .int .i64 0, .bool false] 30) (.cells #[.int .i64 4, .string ⟨#[]⟩, .int .i64 0, .int .i64 i, .bool false] 30)))
  have q0 : (0 : Int) ≤ (i : Int) := by omega
  have q1 : (i : Int) < (bs.length : Int) := by omega
  have q1b : (i : Int) + (n : Int) ≤ (bs.length : Int) := by omega
  have q2 : (i : Int) ≤ (i : Int) + (n : Int) := by omega
  have q3 : ((i : Int) + (n : Int)).toNat = i + n := by omega
  have q4 : i + n ≤ cap := by omega
  have hsub : i + n - i = n := by omega
  have hF1 : Hid (∀ A, ((w.alloc (.cells #[.int .i64 0, .string ⟨#[]⟩, .int .i64 0, .int .i64 0, .bool false] 30)).alloc A).heap[w.heap.size]? = some (.cells #[.int .i64 0, .string ⟨#[]⟩, .int .i64 0, .int .i64 0, .bool false] 30)) := Lib.hid (fun A => first_of _ _ _)
  have hF2 : Hid (∀ A v, ((w.alloc (.cells #[.int .i64 4, .string ⟨#[]⟩, .int .i64 v, .int .i64 i, .bool false] 30)).alloc A).heap[w.heap.size]? = some (.cells #[.int .i64 4, .string ⟨#[]⟩, .int .i64 v, .int .i64 i, .bool false] 30)) := Lib.hid (fun A S => first_of _ _ _)
  cases hnn : numN 0 ((bs.drop i).take n) with
  | none =>
    have HN : Hid (NF = .no 81) := Lib.hid (by rw [HNF.out, hnn])
    have hR : numR ((bs.drop i).take n) = -1 := by unfold numR; rw [hnn]; rfl
    rw [hR] at HNO
    clear hb hx c0 ho0 h_small h_sign hcond HRW hle HNU hR hnn HDG HNF
    go_enter Tryd.func32, Tryd.ntmps32
    go_wp2_with fail
    refine (HSM.out _).mono ?_
    rintro e w1 ⟨rfl, rfl⟩
    go_wp2_with fail
    refine (HSG.out _).mono ?_
    rintro e w1 ⟨rfl, rfl⟩
    go_wp2_with fail
    refine HRO.out.mono ?_
    rintro e w1 ⟨rfl, rfl⟩
    go_wp2_with fail
    refine HNO.out.mono ?_
    rintro e w1 ⟨rfl, rfl⟩
    go_wp2_with fail
    refine bodyPost_ret (v := ansO i (.no 81)) (results_tok rfl _ _ w.heap.size _ _ _ _ _ _ _ rfl rfl rfl (hF1.out _)) rfl ?_
    exact ⟨by rw [HN.out], two_only _ _ _⟩
  | some v =>
    have HN : Hid (NF = .ok 4 [] v n) := Lib.hid (by rw [HNF.out, hnn])
    have hR : numR ((bs.drop i).take n) = v := by unfold numR; rw [hnn]; rfl
    have hv : 0 ≤ v := numN_pos _ 0 v (by omega) HDG hnn
    have hv2 : ¬ v < 0 := by omega
    rw [hR] at HNO
    clear hb hx c0 ho0 h_small h_sign hcond HRW hle HNU hR hnn HDG HNF
    go_enter Tryd.func32, Tryd.ntmps32
    go_wp2_with fail
    refine (HSM.out _).mono ?_
    rintro e w1 ⟨rfl, rfl⟩
    go_wp2_with fail
    refine (HSG.out _).mono ?_
    rintro e w1 ⟨rfl, rfl⟩
    go_wp2_with fail
    refine HRO.out.mono ?_
    rintro e w1 ⟨rfl, rfl⟩
    go_wp2_with fail
    refine HNO.out.mono ?_
    rintro e w1 ⟨rfl, rfl⟩
    go_wp2_with fail
    refine bodyPost_ret (v := .tuple #[tokV 4 (bstr []) v i false, .int .i64 (i + n : Nat), .int .i64 0]) (results_tok rfl _ _ w.heap.size _ _ _ _ _ _ _ rfl rfl rfl (hF2.out _ _)) rfl ?_
    exact ⟨by rw [HN.out]; rfl, two_only _ _ _⟩
set_option maxRecDepth 100000 in
set_option maxHeartbeats 8000000 in
theorem one_quote (b off cap : Nat) (bs : List UInt8) (i : Nat) (x : UInt8) (w : World) (hb : Byts (some ⟨b, off, none⟩) bs w) (hi : i < bs.length) (hl : bs.length ≤ 1000000) (hc : bs.length ≤ cap) (hx : bs[i]? = some x) (hcond : (iv x == 39) = true) :
    Calls Tryd.prog 32 #[.slice (some ⟨b, off, none⟩) bs.length cap, .int .i64 i] w fun e w' => e = .returned (ansO i (quotedF (bs.drop i))) ∧ Only (fun _ => False) w w' := by
  obtain ⟨b', off', he, hb1, c0⟩ := hb i x hx
  cases he
  have ho0 : Only (fun _ => False) w (w.alloc (.cells #[.int .i64 0, .string ⟨#[]⟩, .int .i64 0, .int .i64 0, .bool false] 30)) := Only.alloc _ _ _
  have c0' := (ho0.cell (p := ⟨b, off + i, none⟩) hb1 (fun e => e)).trans c0
  have hk := byte_all (fun x => !(iv x == 39) || (!(iv x == 46) && !(smallB (iv x)) && !(signB (iv x)) && !(wordB (iv x)) && !(iv x == 33) && !(iv x == 59) && !(decide (48 ≤ iv x)) && !(iv x == 40) && !(iv x == 41) && !(iv x == 91) && !(iv x == 93) && !(iv x == 123) && !(iv x == 125) && !(iv x == 44) && !(iv x == 124))) (by kernel_rfl) x
  simp only [hcond, Bool.not_true, Bool.false_or, Bool.and_eq_true, Bool.not_eq_true'] at hk
  obtain ⟨⟨⟨⟨⟨⟨⟨⟨⟨⟨⟨⟨⟨⟨h_46, h_small⟩, h_sign⟩, h_word⟩, h_33⟩, h_59⟩, g48⟩, h_40⟩, h_41⟩, h_91⟩, h_93⟩, h_123⟩, h_125⟩, h_44⟩, h_124⟩ := hk
  have HSM : Hid (∀ W, Calls Tryd.prog 26 #[.int .u8 (iv x)] W fun e w' => e = .returned (.bool false) ∧ w' = W) := Lib.hid (fun W => by have h := rsmall_any (iv x) W; rwa [h_small] at h)
  have HSG : Hid (∀ W, Calls Tryd.prog 28 #[.int .u8 (iv x)] W fun e w' => e = .returned (.bool false) ∧ w' = W) := Lib.hid (fun W => by have h := rsign_any x W; rwa [h_sign] at h)
  have HWD : Hid (∀ W, Calls Tryd.prog 27 #[.int .u8 (iv x)] W fun e w' => e = .returned (.bool false) ∧ w' = W) := Lib.hid (fun W => by have h := rword_any (iv x) W; rwa [h_word] at h)
  simp only [decide_eq_false_iff_not] at g48
  have h_39 := hcond
  have HQU : Hid (Calls Tryd.prog 53 #[.slice (some ⟨b, off, none⟩) bs.length cap, .int .i64 i] ((w.alloc (.cells #[.int .i64 0, .string ⟨#[]⟩, .int .i64 0, .int .i64 0, .bool false] 30)).alloc (.cells #[.int .i64 0, .string ⟨#[]⟩, .int .i64 0, .int .i64 i, .bool false] 30)) fun e w' => e = .returned (quoV i (quotedM (bs.drop i))) ∧ Only (fun _ => False) ((w.alloc (.cells #[.int .i64 0, .string ⟨#[]⟩, .int .i64 0, .int .i64 0, .bool false] 30)).alloc (.cells #[.int .i64 0, .string ⟨#[]⟩, .int .i64 0, .int .i64 i, .bool false] 30)) w') := Lib.hid (rquoted_any b off cap bs i _ (hb.later (two_only _ _ _)) hi hl)
  rw [quotedF_M]
  generalize quotedM (bs.drop i) = QM at *
  have q0 : (0 : Int) ≤ (i : Int) := by omega
  have q1 : (i : Int) < (bs.length : Int) := by omega
  have hF0 : Hid (((w.alloc (.cells #[.int .i64 0, .string ⟨#[]⟩, .int .i64 0, .int .i64 0, .bool false] 30)).alloc (.cells #[.int .i64 0, .string ⟨#[]⟩, .int .i64 0, .int .i64 i, .bool false] 30)).heap[w.heap.size]? = some (.cells #[.int .i64 0, .string ⟨#[]⟩, .int .i64 0, .int .i64 0, .bool false] 30)) := Lib.hid (first_of _ _ _)
  have hF9 : Hid (((w.alloc (.cells #[.int .i64 0, .string ⟨#[]⟩, .int .i64 0, .int .i64 0, .bool false] 30)).alloc (.cells #[.int .i64 0, .string ⟨#[]⟩, .int .i64 0, .int .i64 i, .bool false] 30)).heap[w.heap.size + 1]? = some (.cells #[.int .i64 0, .string ⟨#[]⟩, .int .i64 0, .int .i64 i, .bool false] 30)) := Lib.hid (by
    have := heap_alloc_new (w.alloc (.cells #[.int .i64 0, .string ⟨#[]⟩, .int .i64 0, .int .i64 0, .bool false] 30)) (.cells #[.int .i64 0, .string ⟨#[]⟩, .int .i64 0, .int .i64 i, .bool false] 30)
    rwa [show (w.alloc (.cells #[.int .i64 0, .string ⟨#[]⟩, .int .i64 0, .int .i64 0, .bool false] 30)).heap.size = w.heap.size + 1 by simp] at this)
  have HO2 : Hid (Only (fun _ => False) w ((w.alloc (.cells #[.int .i64 0, .string ⟨#[]⟩, .int .i64 0, .int .i64 0, .bool false] 30)).alloc (.cells #[.int .i64 0, .string ⟨#[]⟩, .int .i64 0, .int .i64 i, .bool false] 30))) := Lib.hid (two_only _ _ _)
  have hsz2 : ((w.alloc (.cells #[.int .i64 0, .string ⟨#[]⟩, .int .i64 0, .int .i64 0, .bool false] 30)).alloc (.cells #[.int .i64 0, .string ⟨#[]⟩, .int .i64 0, .int .i64 i, .bool false] 30)).heap.size = w.heap.size + 2 := by simp
  have HSZ := Lib.hid hsz2
  clear hb hx c0 ho0 h_small h_sign h_word hcond hsz2
  cases QM with
  | none =>
    unfold quoV at HQU
    go_enter Tryd.func32, Tryd.ntmps32
    go_wp2_with fail
    refine (HSM.out _).mono ?_
    rintro e w1 ⟨rfl, rfl⟩
    go_wp2_with fail
    refine (HSG.out _).mono ?_
    rintro e w1 ⟨rfl, rfl⟩
    go_wp2_with fail
    refine (HWD.out _).mono ?_
    rintro e w1 ⟨rfl, rfl⟩
    go_wp2_with fail
    refine HQU.out.mono ?_
    rintro e w2 ⟨rfl, ho⟩
    have hb2 : w2.heap[w.heap.size]? = some (.cells #[.int .i64 0, .string ⟨#[]⟩, .int .i64 0, .int .i64 0, .bool false] 30) := by rw [ho.block w.heap.size (by rw [HSZ.out]; omega) (fun e => e)]; exact hF0.out
    have HB2 := Lib.hid hb2
    have HOW := Lib.hid (HO2.out.same ho)
    obtain ⟨⟨t0, t1, t2, t3, t4⟩, f0, f1, f2, f3, f4⟩ := tk_cells hb2
    clear ho hb2
    go_wp2_with fail
    refine bodyPost_ret (v := ansO i (.no 80)) (results_tok rfl _ _ w.heap.size _ _ _ _ _ _ _ rfl rfl rfl (tk_set HB2.out _ _ _ _ _).1) rfl ?_
    exact ⟨rfl, Only.cut HOW.out (tk_set HB2.out _ _ _ _ _).2 (fun q e => by omega)⟩
  | some q =>
    obtain ⟨s, len⟩ := q
    unfold quoV at HQU
    have hsz := bstr_size s
    have HFM : Hid (fromM (some (s, len)) = if 64 < s.length then .no 3 else .ok 2 s 0 len) := Lib.hid rfl
    generalize fromM (some (s, len)) = NF at *
    generalize hS : bstr s = S at *
    have HS := Lib.hid hS
    have HQU2 : Hid (Calls Tryd.prog 53 #[.slice (some ⟨b, off, none⟩) bs.length cap, .int .i64 i] ((w.alloc (.cells #[.int .i64 0, .string ⟨#[]⟩, .int .i64 0, .int .i64 0, .bool false] 30)).alloc (.cells #[.int .i64 0, .string ⟨#[]⟩, .int .i64 0, .int .i64 i, .bool false] 30)) fun e w' => e = .returned (.tuple #[.string S, .int .i64 (i + len : Nat), .bool true]) ∧ Only (fun _ => False) ((w.alloc (.cells #[.int .i64 0, .string ⟨#[]⟩, .int .i64 0, .int .i64 0, .bool false] 30)).alloc (.cells #[.int .i64 0, .string ⟨#[]⟩, .int .i64 0, .int .i64 i, .bool false] 30)) w') := Lib.hid (by rw [← hS]; exact HQU.out)
    clear hS HQU
    by_cases h64 : 64 < s.length
    · have g64 : (64 : Int) < (s.length : Int) := by omega
      have HN : Hid (NF = .no 3) := Lib.hid (by rw [HFM.out, if_pos h64])
      clear HFM h64
      go_enter Tryd.func32, Tryd.ntmps32
      go_wp2_with fail
      refine (HSM.out _).mono ?_
      rintro e w1 ⟨rfl, rfl⟩
      go_wp2_with fail
      refine (HSG.out _).mono ?_
      rintro e w1 ⟨rfl, rfl⟩
      go_wp2_with fail
      refine (HWD.out _).mono ?_
      rintro e w1 ⟨rfl, rfl⟩
      go_wp2_with fail
      refine HQU2.out.mono ?_
      rintro e w2 ⟨rfl, ho⟩
      have hb2 : w2.heap[w.heap.size]? = some (.cells #[.int .i64 0, .string ⟨#[]⟩, .int .i64 0, .int .i64 0, .bool false] 30) := by rw [ho.block w.heap.size (by rw [HSZ.out]; omega) (fun e => e)]; exact hF0.out
      have hb3 : w2.heap[w.heap.size + 1]? = some (.cells #[.int .i64 0, .string ⟨#[]⟩, .int .i64 0, .int .i64 i, .bool false] 30) := by rw [ho.block (w.heap.size + 1) (by rw [HSZ.out]; omega) (fun e => e)]; exact hF9.out
      have HB2 := Lib.hid hb2
      have HX : Hid (∀ v0 v1, ((w2.setCell ⟨w.heap.size + 1, 0, none⟩ v0).setCell ⟨w.heap.size + 1, 1, none⟩ v1).heap[w.heap.size]? = some (.cells #[.int .i64 0, .string ⟨#[]⟩, .int .i64 0, .int .i64 0, .bool false] 30) ∧ Only (fun q => q = w.heap.size + 1) w2 ((w2.setCell ⟨w.heap.size + 1, 0, none⟩ v0).setCell ⟨w.heap.size + 1, 1, none⟩ v1)) := Lib.hid (fun v0 v1 => by
        have ho' : Only (fun q => q = w.heap.size + 1) w2 ((w2.setCell ⟨w.heap.size + 1, 0, none⟩ v0).setCell ⟨w.heap.size + 1, 1, none⟩ v1) := (Only.setCell (S := fun q => q = w.heap.size + 1) (p := ⟨w.heap.size + 1, 0, none⟩) w2 rfl v0).same (Only.setCell (S := fun q => q = w.heap.size + 1) (p := ⟨w.heap.size + 1, 1, none⟩) _ rfl v1)
        exact ⟨by rw [ho'.block w.heap.size (lt_of_block hb2) (by omega)]; exact hb2, ho'⟩)
      have HB3 := Lib.hid hb3
      have HOW := Lib.hid (HO2.out.same ho)
      obtain ⟨⟨t0, t1, t2, t3, t4⟩, f0, f1, f2, f3, f4⟩ := tk_cells hb2
      obtain ⟨⟨s0, s1, s2, s3, s4⟩, e0, e1, e2, e3, e4⟩ := tk_cells hb3
      clear ho hb2 hb3
      go_wp2_with fail
      refine bodyPost_ret (v := ansO i (.no 3)) (results_tok rfl _ _ w.heap.size _ _ _ _ _ _ _ rfl rfl rfl (tk_set (HX.out _ _).1 _ _ _ _ _).1) rfl ?_
      exact ⟨by rw [HN.out], Only.cut (Only.cut HOW.out (HX.out _ _).2 (fun q e => by omega)) (tk_set (HX.out _ _).1 _ _ _ _ _).2 (fun q e => by omega)⟩
    · have g64 : ¬ (64 : Int) < (s.length : Int) := by omega
      have HN : Hid (NF = .ok 2 s 0 len) := Lib.hid (by rw [HFM.out, if_neg h64])
      clear HFM h64
      go_enter Tryd.func32, Tryd.ntmps32
      go_wp2_with fail
      refine (HSM.out _).mono ?_
      rintro e w1 ⟨rfl, rfl⟩
      go_wp2_with fail
      refine (HSG.out _).mono ?_
      rintro e w1 ⟨rfl, rfl⟩
      go_wp2_with fail
      refine (HWD.out _).mono ?_
      rintro e w1 ⟨rfl, rfl⟩
      go_wp2_with fail
      refine HQU2.out.mono ?_
      rintro e w2 ⟨rfl, ho⟩
      have hb2 : w2.heap[w.heap.size]? = some (.cells #[.int .i64 0, .string ⟨#[]⟩, .int .i64 0, .int .i64 0, .bool false] 30) := by rw [ho.block w.heap.size (by rw [HSZ.out]; omega) (fun e => e)]; exact hF0.out
      have hb3 : w2.heap[w.heap.size + 1]? = some (.cells #[.int .i64 0, .string ⟨#[]⟩, .int .i64 0, .int .i64 i, .bool false] 30) := by rw [ho.block (w.heap.size + 1) (by rw [HSZ.out]; omega) (fun e => e)]; exact hF9.out
      have HB2 := Lib.hid hb2
      have HX : Hid (∀ v0 v1, ((w2.setCell ⟨w.heap.size + 1, 0, none⟩ v0).setCell ⟨w.heap.size + 1, 1, none⟩ v1).heap[w.heap.size]? = some (.cells #[.int .i64 0, .string ⟨#[]⟩, .int .i64 0, .int .i64 0, .bool false] 30) ∧ Only (fun q => q = w.heap.size + 1) w2 ((w2.setCell ⟨w.heap.size + 1, 0, none⟩ v0).setCell ⟨w.heap.size + 1, 1, none⟩ v1)) := Lib.hid (fun v0 v1 => by
        have ho' : Only (fun q => q = w.heap.size + 1) w2 ((w2.setCell ⟨w.heap.size + 1, 0, none⟩ v0).setCell ⟨w.heap.size + 1, 1, none⟩ v1) := (Only.setCell (S := fun q => q = w.heap.size + 1) (p := ⟨w.heap.size + 1, 0, none⟩) w2 rfl v0).same (Only.setCell (S := fun q => q = w.heap.size + 1) (p := ⟨w.heap.size + 1, 1, none⟩) _ rfl v1)
        exact ⟨by rw [ho'.block w.heap.size (lt_of_block hb2) (by omega)]; exact hb2, ho'⟩)
      have HB3 := Lib.hid hb3
      have HOW := Lib.hid (HO2.out.same ho)
      obtain ⟨⟨t0, t1, t2, t3, t4⟩, f0, f1, f2, f3, f4⟩ := tk_cells hb2
      obtain ⟨⟨s0, s1, s2, s3, s4⟩, e0, e1, e2, e3, e4⟩ := tk_cells hb3
      clear ho hb2 hb3
      go_wp2_with fail
      refine bodyPost_ret (v := .tuple #[tokV 2 S 0 i false, .int .i64 (i + len : Nat), .int .i64 0]) (results_tok rfl _ _ w.heap.size _ _ _ _ _ _ _ rfl rfl rfl (tk_set (HX.out _ _).1 _ _ _ _ _).1) rfl ?_
      exact ⟨by rw [HN.out, ← HS.out]; rfl, Only.cut (Only.cut HOW.out (HX.out _ _).2 (fun q e => by omega)) (tk_set (HX.out _ _).1 _ _ _ _ _).2 (fun q e => by omega)⟩
set_option maxRecDepth 100000 in
set_option maxHeartbeats 8000000 in
theorem one_none (b off cap : Nat) (bs : List UInt8) (i : Nat) (x : UInt8) (w : World) (hb : Byts (some ⟨b, off, none⟩) bs w) (hi : i < bs.length) (hl : bs.length ≤ 1000000) (hc : bs.length ≤ cap) (hx : bs[i]? = some x) (hcond : ((!(smallB (iv x))) && (!(signB (iv x))) && (!(iv x == 33)) && (!(iv x == 59)) && (!(wordB (iv x))) && (!(iv x == 40)) && (!(iv x == 41)) && (!(iv x == 91)) && (!(iv x == 93)) && (!(iv x == 123)) && (!(iv x == 125)) && (!(iv x == 44)) && (!(iv x == 124)) && (!(iv x == 39))) = true) :
    Calls Tryd.prog 32 #[.slice (some ⟨b, off, none⟩) bs.length cap, .int .i64 i] w fun e w' => e = .returned (ansO i (.no 80)) ∧ Only (fun _ => False) w w' := by
  obtain ⟨b', off', he, hb1, c0⟩ := hb i x hx
  cases he
  have ho0 : Only (fun _ => False) w (w.alloc (.cells #[.int .i64 0, .string ⟨#[]⟩, .int .i64 0, .int .i64 0, .bool false] 30)) := Only.alloc _ _ _
  have c0' := (ho0.cell (p := ⟨b, off + i, none⟩) hb1 (fun e => e)).trans c0
  have hk := byte_all (fun x => !((!(smallB (iv x))) && (!(signB (iv x))) && (!(iv x == 33)) && (!(iv x == 59)) && (!(wordB (iv x))) && (!(iv x == 40)) && (!(iv x == 41)) && (!(iv x == 91)) && (!(iv x == 93)) && (!(iv x == 123)) && (!(iv x == 125)) && (!(iv x == 44)) && (!(iv x == 124)) && (!(iv x == 39))) || (!(iv x == 46) && !(smallB (iv x)) && !(signB (iv x)) && !(wordB (iv x)) && !(iv x == 33) && !(iv x == 59) && !(iv x == 39) && !(decide (48 ≤ iv x) && decide (iv x ≤ 57)) && !(iv x == 40) && !(iv x == 41) && !(iv x == 91) && !(iv x == 93) && !(iv x == 123) && !(iv x == 125) && !(iv x == 44) && !(iv x == 124))) (by kernel_rfl) x
  simp only [hcond, Bool.not_true, Bool.false_or, Bool.and_eq_true, Bool.not_eq_true'] at hk
  obtain ⟨⟨⟨⟨⟨⟨⟨⟨⟨⟨⟨⟨⟨⟨⟨h_46, h_small⟩, h_sign⟩, h_word⟩, h_33⟩, h_59⟩, h_39⟩, hdg⟩, h_40⟩, h_41⟩, h_91⟩, h_93⟩, h_123⟩, h_125⟩, h_44⟩, h_124⟩ := hk
  have HSM : Hid (∀ W, Calls Tryd.prog 26 #[.int .u8 (iv x)] W fun e w' => e = .returned (.bool false) ∧ w' = W) := Lib.hid (fun W => by have h := rsmall_any (iv x) W; rwa [h_small] at h)
  have HSG : Hid (∀ W, Calls Tryd.prog 28 #[.int .u8 (iv x)] W fun e w' => e = .returned (.bool false) ∧ w' = W) := Lib.hid (fun W => by have h := rsign_any x W; rwa [h_sign] at h)
  have HWD : Hid (∀ W, Calls Tryd.prog 27 #[.int .u8 (iv x)] W fun e w' => e = .returned (.bool false) ∧ w' = W) := Lib.hid (fun W => by have h := rword_any (iv x) W; rwa [h_word] at h)

  have hF0 : Hid (∀ A, ((w.alloc (.cells #[.int .i64 0, .string ⟨#[]⟩, .int .i64 0, .int .i64 0, .bool false] 30)).alloc A).heap[w.heap.size]? = some (.cells #[.int .i64 0, .string ⟨#[]⟩, .int .i64 0, .int .i64 0, .bool false] 30)) := Lib.hid (fun A => first_of _ _ _)
  have q0 : (0 : Int) ≤ (i : Int) := by omega
  have q1 : (i : Int) < (bs.length : Int) := by omega
  clear hb hx c0 ho0 h_small h_sign h_word hcond
  by_cases g48 : 48 ≤ iv x
  · have g57 : ¬ iv x ≤ 57 := by
      rw [decide_eq_true g48, Bool.true_and] at hdg
      exact of_decide_eq_false hdg
    clear hdg
    go_enter Tryd.func32, Tryd.ntmps32
    go_wp2_with fail
    refine (HSM.out _).mono ?_
    rintro e w1 ⟨rfl, rfl⟩
    go_wp2_with fail
    refine (HSG.out _).mono ?_
    rintro e w1 ⟨rfl, rfl⟩
    go_wp2_with fail
    refine (HWD.out _).mono ?_
    rintro e w1 ⟨rfl, rfl⟩
    go_wp2_with fail
    refine bodyPost_ret (v := ansO i (.no 80)) (results_tok rfl _ _ w.heap.size _ _ _ _ _ _ _ rfl rfl rfl (hF0.out _)) rfl ?_
    exact ⟨rfl, two_only _ _ _⟩
  · clear hdg
    go_enter Tryd.func32, Tryd.ntmps32
    go_wp2_with fail
    refine (HSM.out _).mono ?_
    rintro e w1 ⟨rfl, rfl⟩
    go_wp2_with fail
    refine (HSG.out _).mono ?_
    rintro e w1 ⟨rfl, rfl⟩
    go_wp2_with fail
    refine (HWD.out _).mono ?_
    rintro e w1 ⟨rfl, rfl⟩
    go_wp2_with fail
    refine bodyPost_ret (v := ansO i (.no 80)) (results_tok rfl _ _ w.heap.size _ _ _ _ _ _ _ rfl rfl rfl (hF0.out _)) rfl ?_
    exact ⟨rfl, two_only _ _ _⟩
end Go.Proofs.YtogccafnfpmgmaaDoor.toks
