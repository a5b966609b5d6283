/- Tokens: the reference's token that begins at a place. -/
import Derived.Test.YtogccafnfpmgmaaDoorTokZ
namespace Go.Proofs.YtogccafnfpmgmaaDoor.toks
open Go.RowKit Go.Proofs.YtogccafnfpmgmaaDoor.own
def ansO (i : Nat) : TR → Value
  | .ok kd s n len => .tuple #[tokV kd (bstr s) n i false, .int .i64 (i + len : Nat), .int .i64 0]
  | .no e => .tuple #[tokV 0 ⟨#[]⟩ 0 0 false, .int .i64 i, .int .i64 e]
theorem first_of (w : World) (A B : Obj) : ((w.alloc A).alloc B).heap[w.heap.size]? = some A := by
  rw [(Only.alloc (fun _ => False) (w.alloc A) B).block w.heap.size (by simp) (fun e => e)]
  exact heap_alloc_new w A
theorem two_only (w : World) (A B : Obj) : Only (fun _ => False) w ((w.alloc A).alloc B) := (Only.alloc _ _ _).same (Only.alloc _ _ _)
theorem take_one {bs : List UInt8} {i : Nat} {x : UInt8} (hx : bs[i]? = some x) : (bs.drop i).take 1 = [x] := by rw [drop_at hx]; rfl
theorem bstr_size (l : List UInt8) : (bstr l).size = l.length := rfl
set_option maxRecDepth 100000 in
set_option maxHeartbeats 8000000 in
theorem one_bang (b off cap : Nat) (bs : List UInt8) (i : Nat) (x : UInt8) (w : World) (hb : Byts (some ⟨b, off, none⟩) bs w) (hi : i < bs.length) (hl : bs.length ≤ 1000000) (hc : bs.length ≤ cap) (hx : bs[i]? = some x) (hcond : (iv x == 33) = true) :
    Calls Tryd.prog 32 #[.slice (some ⟨b, off, none⟩) bs.length cap, .int .i64 i] w fun e w' => e = .returned (ansO i (.ok 1 [x] 0 1)) ∧ Only (fun _ => False) w w' := by
  obtain ⟨b', off', he, hb1, c0⟩ := hb i x hx
  cases he
  have ho0 : Only (fun _ => False) w (w.alloc (.cells #[.int .i64 0, .string ⟨#[]⟩, .int .i64 0, .int .i64 0, .bool false] 30)) := Only.alloc _ _ _
  have c0' := (ho0.cell (p := ⟨b, off + i, none⟩) hb1 (fun e => e)).trans c0
  have hk := byte_all (fun x => !(iv x == 33) || (!(iv x == 46) && !(smallB (iv x)) && !(signB (iv x)))) (by kernel_rfl) x
  simp only [hcond, Bool.not_true, Bool.false_or, Bool.and_eq_true, Bool.not_eq_true'] at hk
  obtain ⟨⟨h_46, h_small⟩, h_sign⟩ := hk
  have HSM : Hid (∀ W, Calls Tryd.prog 26 #[.int .u8 (iv x)] W fun e w' => e = .returned (.bool false) ∧ w' = W) := Lib.hid (fun W => by have h := rsmall_any (iv x) W; rwa [h_small] at h)
  have HSG : Hid (∀ W, Calls Tryd.prog 28 #[.int .u8 (iv x)] W fun e w' => e = .returned (.bool false) ∧ w' = W) := Lib.hid (fun W => by have h := rsign_any x W; rwa [h_sign] at h)
  have hcv := run_part (i := i) (n := 1) (c := cap - i) (hb.later (two_only w (.cells #[.int .i64 0, .string ⟨#[]⟩, .int .i64 0, .int .i64 0, .bool false] 30) (.cells #[.int .i64 1, .string ⟨#[]⟩, .int .i64 0, .int .i64 i, .bool false] 30))) (by omega)
  rw [take_one hx] at hcv
  have hsz := bstr_size [x]
  rw [List.length_singleton] at hsz
  have q0 : (0 : Int) ≤ (i : Int) := by omega
  have q1 : (i : Int) < (bs.length : Int) := by omega
  have q2 : (i : Int) + 1 ≤ (bs.length : Int) := by omega
  have q3 : ((i : Int) + 1).toNat = i + 1 := by omega
  have q4 : i + 1 ≤ cap := by omega
  have hF : Hid (((w.alloc (.cells #[.int .i64 1, .string (bstr [x]), .int .i64 0, .int .i64 i, .bool false] 30)).alloc (.cells #[.int .i64 1, .string (bstr [x]), .int .i64 0, .int .i64 i, .bool false] 30)).heap[w.heap.size]? = some (.cells #[.int .i64 1, .string (bstr [x]), .int .i64 0, .int .i64 i, .bool false] 30)) := Lib.hid (first_of _ _ _)
  generalize hS : bstr [x] = S at *
  have bstr_S : Hid (bstr [x] = S) := Lib.hid hS
  clear hb hx c0 ho0 h_small h_sign hS
  go_enter Tryd.func32, Tryd.ntmps32
  go_wp2_with fail
  refine (HSM.out _).mono ?_
  rintro e w1 ⟨rfl, rfl⟩
  go_wp2_with fail
  refine (HSG.out _).mono ?_
  rintro e w1 ⟨rfl, rfl⟩
  go_wp2_with fail
  refine bodyPost_ret (v := .tuple #[tokV 1 S 0 i false, .int .i64 (i + 1 : Nat), .int .i64 0]) (results_tok rfl _ _ w.heap.size _ _ _ _ _ _ _ rfl rfl rfl hF.out) rfl ?_
  exact ⟨by rw [← bstr_S.out]; rfl, two_only _ _ _⟩
set_option maxRecDepth 100000 in
set_option maxHeartbeats 8000000 in
theorem one_semi (b off cap : Nat) (bs : List UInt8) (i : Nat) (x : UInt8) (w : World) (hb : Byts (some ⟨b, off, none⟩) bs w) (hi : i < bs.length) (hl : bs.length ≤ 1000000) (hc : bs.length ≤ cap) (hx : bs[i]? = some x) (hcond : (iv x == 59) = true) :
    Calls Tryd.prog 32 #[.slice (some ⟨b, off, none⟩) bs.length cap, .int .i64 i] w fun e w' => e = .returned (ansO i (.ok 1 [x] 0 1)) ∧ Only (fun _ => False) w w' := by
  obtain ⟨b', off', he, hb1, c0⟩ := hb i x hx
  cases he
  have ho0 : Only (fun _ => False) w (w.alloc (.cells #[.int .i64 0, .string ⟨#[]⟩, .int .i64 0, .int .i64 0, .bool false] 30)) := Only.alloc _ _ _
  have c0' := (ho0.cell (p := ⟨b, off + i, none⟩) hb1 (fun e => e)).trans c0
  have hk := byte_all (fun x => !(iv x == 59) || (!(iv x == 46) && !(smallB (iv x)) && !(signB (iv x)) && !(iv x == 33))) (by kernel_rfl) x
  simp only [hcond, Bool.not_true, Bool.false_or, Bool.and_eq_true, Bool.not_eq_true'] at hk
  obtain ⟨⟨⟨h_46, h_small⟩, h_sign⟩, h_33⟩ := hk
  have HSM : Hid (∀ W, Calls Tryd.prog 26 #[.int .u8 (iv x)] W fun e w' => e = .returned (.bool false) ∧ w' = W) := Lib.hid (fun W => by have h := rsmall_any (iv x) W; rwa [h_small] at h)
  have HSG : Hid (∀ W, Calls Tryd.prog 28 #[.int .u8 (iv x)] W fun e w' => e = .returned (.bool false) ∧ w' = W) := Lib.hid (fun W => by have h := rsign_any x W; rwa [h_sign] at h)
  have hcv := run_part (i := i) (n := 1) (c := cap - i) (hb.later (two_only w (.cells #[.int .i64 0, .string ⟨#[]⟩, .int .i64 0, .int .i64 0, .bool false] 30) (.cells #[.int .i64 1, .string ⟨#[]⟩, .int .i64 0, .int .i64 i, .bool false] 30))) (by omega)
  rw [take_one hx] at hcv
  have hsz := bstr_size [x]
  rw [List.length_singleton] at hsz
  have q0 : (0 : Int) ≤ (i : Int) := by omega
  have q1 : (i : Int) < (bs.length : Int) := by omega
  have q2 : (i : Int) + 1 ≤ (bs.length : Int) := by omega
  have q3 : ((i : Int) + 1).toNat = i + 1 := by omega
  have q4 : i + 1 ≤ cap := by omega
  have hF : Hid (((w.alloc (.cells #[.int .i64 1, .string (bstr [x]), .int .i64 0, .int .i64 i, .bool false] 30)).alloc (.cells #[.int .i64 1, .string (bstr [x]), .int .i64 0, .int .i64 i, .bool false] 30)).heap[w.heap.size]? = some (.cells #[.int .i64 1, .string (bstr [x]), .int .i64 0, .int .i64 i, .bool false] 30)) := Lib.hid (first_of _ _ _)
  generalize hS : bstr [x] = S at *
  have bstr_S : Hid (bstr [x] = S) := Lib.hid hS
  clear hb hx c0 ho0 h_small h_sign hS
  go_enter Tryd.func32, Tryd.ntmps32
  go_wp2_with fail
  refine (HSM.out _).mono ?_
  rintro e w1 ⟨rfl, rfl⟩
  go_wp2_with fail
  refine (HSG.out _).mono ?_
  rintro e w1 ⟨rfl, rfl⟩
  go_wp2_with fail
  refine bodyPost_ret (v := .tuple #[tokV 1 S 0 i false, .int .i64 (i + 1 : Nat), .int .i64 0]) (results_tok rfl _ _ w.heap.size _ _ _ _ _ _ _ rfl rfl rfl hF.out) rfl ?_
  exact ⟨by rw [← bstr_S.out]; rfl, two_only _ _ _⟩
set_option maxRecDepth 100000 in
set_option maxHeartbeats 8000000 in
theorem one_punct40 (b off cap : Nat) (bs : List UInt8) (i : Nat) (x : UInt8) (w : World) (hb : Byts (some ⟨b, off, none⟩) bs w) (hi : i < bs.length) (hl : bs.length ≤ 1000000) (hc : bs.length ≤ cap) (hx : bs[i]? = some x) (hcond : (iv x == 40) = true) :
    Calls Tryd.prog 32 #[.slice (some ⟨b, off, none⟩) bs.length cap, .int .i64 i] w fun e w' => e = .returned (ansO i (.ok 5 [x] 0 1)) ∧ Only (fun _ => False) w w' := by
  obtain ⟨b', off', he, hb1, c0⟩ := hb i x hx
  cases he
  have ho0 : Only (fun _ => False) w (w.alloc (.cells #[.int .i64 0, .string ⟨#[]⟩, .int .i64 0, .int .i64 0, .bool false] 30)) := Only.alloc _ _ _
  have c0' := (ho0.cell (p := ⟨b, off + i, none⟩) hb1 (fun e => e)).trans c0
  have hk := byte_all (fun x => !(iv x == 40) || (!(iv x == 46) && !(smallB (iv x)) && !(signB (iv x)) && !(wordB (iv x)) && !(iv x == 33) && !(iv x == 59) && !(decide (48 ≤ iv x)) && (decide (iv x ≤ 57)))) (by kernel_rfl) x
  simp only [hcond, Bool.not_true, Bool.false_or, Bool.and_eq_true, Bool.not_eq_true'] at hk
  obtain ⟨⟨⟨⟨⟨⟨⟨h_46, h_small⟩, h_sign⟩, h_word⟩, h_33⟩, h_59⟩, g48⟩, g57⟩ := hk
  have HSM : Hid (∀ W, Calls Tryd.prog 26 #[.int .u8 (iv x)] W fun e w' => e = .returned (.bool false) ∧ w' = W) := Lib.hid (fun W => by have h := rsmall_any (iv x) W; rwa [h_small] at h)
  have HSG : Hid (∀ W, Calls Tryd.prog 28 #[.int .u8 (iv x)] W fun e w' => e = .returned (.bool false) ∧ w' = W) := Lib.hid (fun W => by have h := rsign_any x W; rwa [h_sign] at h)
  have HWD : Hid (∀ W, Calls Tryd.prog 27 #[.int .u8 (iv x)] W fun e w' => e = .returned (.bool false) ∧ w' = W) := Lib.hid (fun W => by have h := rword_any (iv x) W; rwa [h_word] at h)
  simp only [decide_eq_true_eq, decide_eq_false_iff_not] at g48 g57
  have hcv := run_part (i := i) (n := 1) (c := cap - i) (hb.later (two_only w (.cells #[.int .i64 0, .string ⟨#[]⟩, .int .i64 0, .int .i64 0, .bool false] 30) (.cells #[.int .i64 5, .string ⟨#[]⟩, .int .i64 0, .int .i64 i, .bool false] 30))) (by omega)
  rw [take_one hx] at hcv
  have hsz := bstr_size [x]
  rw [List.length_singleton] at hsz
  have q0 : (0 : Int) ≤ (i : Int) := by omega
  have q1 : (i : Int) < (bs.length : Int) := by omega
  have q2 : (i : Int) + 1 ≤ (bs.length : Int) := by omega
  have q3 : ((i : Int) + 1).toNat = i + 1 := by omega
  have q4 : i + 1 ≤ cap := by omega
  have hF : Hid (((w.alloc (.cells #[.int .i64 5, .string (bstr [x]), .int .i64 0, .int .i64 i, .bool false] 30)).alloc (.cells #[.int .i64 5, .string (bstr [x]), .int .i64 0, .int .i64 i, .bool false] 30)).heap[w.heap.size]? = some (.cells #[.int .i64 5, .string (bstr [x]), .int .i64 0, .int .i64 i, .bool false] 30)) := Lib.hid (first_of _ _ _)
  generalize hS : bstr [x] = S at *
  have bstr_S : Hid (bstr [x] = S) := Lib.hid hS
  clear hb hx c0 ho0 h_small h_sign h_word hS
  go_enter Tryd.func32, Tryd.ntmps32
  go_wp2_with fail
  refine (HSM.out _).mono ?_
  rintro e w1 ⟨rfl, rfl⟩
  go_wp2_with fail
  refine (HSG.out _).mono ?_
  rintro e w1 ⟨rfl, rfl⟩
  go_wp2_with fail
  refine (HWD.out _).mono ?_
  rintro e w1 ⟨rfl, rfl⟩
  go_wp2_with fail
  refine bodyPost_ret (v := .tuple #[tokV 5 S 0 i false, .int .i64 (i + 1 : Nat), .int .i64 0]) (results_tok rfl _ _ w.heap.size _ _ _ _ _ _ _ rfl rfl rfl hF.out) rfl ?_
  exact ⟨by rw [← bstr_S.out]; rfl, two_only _ _ _⟩
set_option maxRecDepth 100000 in
set_option maxHeartbeats 8000000 in
theorem one_punct41 (b off cap : Nat) (bs : List UInt8) (i : Nat) (x : UInt8) (w : World) (hb : Byts (some ⟨b, off, none⟩) bs w) (hi : i < bs.length) (hl : bs.length ≤ 1000000) (hc : bs.length ≤ cap) (hx : bs[i]? = some x) (hcond : (iv x == 41) = true) :
    Calls Tryd.prog 32 #[.slice (some ⟨b, off, none⟩) bs.length cap, .int .i64 i] w fun e w' => e = .returned (ansO i (.ok 5 [x] 0 1)) ∧ Only (fun _ => False) w w' := by
  obtain ⟨b', off', he, hb1, c0⟩ := hb i x hx
  cases he
  have ho0 : Only (fun _ => False) w (w.alloc (.cells #[.int .i64 0, .string ⟨#[]⟩, .int .i64 0, .int .i64 0, .bool false] 30)) := Only.alloc _ _ _
  have c0' := (ho0.cell (p := ⟨b, off + i, none⟩) hb1 (fun e => e)).trans c0
  have hk := byte_all (fun x => !(iv x == 41) || (!(iv x == 46) && !(smallB (iv x)) && !(signB (iv x)) && !(wordB (iv x)) && !(iv x == 33) && !(iv x == 59) && !(iv x == 40) && !(decide (48 ≤ iv x)) && (decide (iv x ≤ 57)))) (by kernel_rfl) x
  simp only [hcond, Bool.not_true, Bool.false_or, Bool.and_eq_true, Bool.not_eq_true'] at hk
  obtain ⟨⟨⟨⟨⟨⟨⟨⟨h_46, h_small⟩, h_sign⟩, h_word⟩, h_33⟩, h_59⟩, h_40⟩, g48⟩, g57⟩ := hk
  have HSM : Hid (∀ W, Calls Tryd.prog 26 #[.int .u8 (iv x)] W fun e w' => e = .returned (.bool false) ∧ w' = W) := Lib.hid (fun W => by have h := rsmall_any (iv x) W; rwa [h_small] at h)
  have HSG : Hid (∀ W, Calls Tryd.prog 28 #[.int .u8 (iv x)] W fun e w' => e = .returned (.bool false) ∧ w' = W) := Lib.hid (fun W => by have h := rsign_any x W; rwa [h_sign] at h)
  have HWD : Hid (∀ W, Calls Tryd.prog 27 #[.int .u8 (iv x)] W fun e w' => e = .returned (.bool false) ∧ w' = W) := Lib.hid (fun W => by have h := rword_any (iv x) W; rwa [h_word] at h)
  simp only [decide_eq_true_eq, decide_eq_false_iff_not] at g48 g57
  have hcv := run_part (i := i) (n := 1) (c := cap - i) (hb.later (two_only w (.cells #[.int .i64 0, .string ⟨#[]⟩, .int .i64 0, .int .i64 0, .bool false] 30) (.cells #[.int .i64 5, .string ⟨#[]⟩, .int .i64 0, .int .i64 i, .bool false] 30))) (by omega)
  rw [take_one hx] at hcv
  have hsz := bstr_size [x]
  rw [List.length_singleton] at hsz
  have q0 : (0 : Int) ≤ (i : Int) := by omega
  have q1 : (i : Int) < (bs.length : Int) := by omega
  have q2 : (i : Int) + 1 ≤ (bs.length : Int) := by omega
  have q3 : ((i : Int) + 1).toNat = i + 1 := by omega
  have q4 : i + 1 ≤ cap := by omega
  have hF : Hid (((w.alloc (.cells #[.int .i64 5, .string (bstr [x]), .int .i64 0, .int .i64 i, .bool false] 30)).alloc (.cells #[.int .i64 5, .string (bstr [x]), .int .i64 0, .int .i64 i, .bool false] 30)).heap[w.heap.size]? = some (.cells #[.int .i64 5, .string (bstr [x]), .int .i64 0, .int .i64 i, .bool false] 30)) := Lib.hid (first_of _ _ _)
  generalize hS : bstr [x] = S at *
  have bstr_S : Hid (bstr [x] = S) := Lib.hid hS
  clear hb hx c0 ho0 h_small h_sign h_word hS
  go_enter Tryd.func32, Tryd.ntmps32
  go_wp2_with fail
  refine (HSM.out _).mono ?_
  rintro e w1 ⟨rfl, rfl⟩
  go_wp2_with fail
  refine (HSG.out _).mono ?_
  rintro e w1 ⟨rfl, rfl⟩
  go_wp2_with fail
  refine (HWD.out _).mono ?_
  rintro e w1 ⟨rfl, rfl⟩
  go_wp2_with fail
  refine bodyPost_ret (v := .tuple #[tokV 5 S 0 i false, .int .i64 (i + 1 : Nat), .int .i64 0]) (results_tok rfl _ _ w.heap.size _ _ _ _ _ _ _ rfl rfl rfl hF.out) rfl ?_
  exact ⟨by rw [← bstr_S.out]; rfl, two_only _ _ _⟩
set_option maxRecDepth 100000 in
set_option maxHeartbeats 8000000 in
theorem one_punct91 (b off cap : Nat) (bs : List UInt8) (i : Nat) (x : UInt8) (w : World) (hb : Byts (some ⟨b, off, none⟩) bs w) (hi : i < bs.length) (hl : bs.length ≤ 1000000) (hc : bs.length ≤ cap) (hx : bs[i]? = some x) (hcond : (iv x == 91) = true) :
    Calls Tryd.prog 32 #[.slice (some ⟨b, off, none⟩) bs.length cap, .int .i64 i] w fun e w' => e = .returned (ansO i (.ok 5 [x] 0 1)) ∧ Only (fun _ => False) w w' := by
  obtain ⟨b', off', he, hb1, c0⟩ := hb i x hx
  cases he
  have ho0 : Only (fun _ => False) w (w.alloc (.cells #[.int .i64 0, .string ⟨#[]⟩, .int .i64 0, .int .i64 0, .bool false] 30)) := Only.alloc _ _ _
  have c0' := (ho0.cell (p := ⟨b, off + i, none⟩) hb1 (fun e => e)).trans c0
  have hk := byte_all (fun x => !(iv x == 91) || (!(iv x == 46) && !(smallB (iv x)) && !(signB (iv x)) && !(wordB (iv x)) && !(iv x == 33) && !(iv x == 59) && !(iv x == 40) && !(iv x == 41) && (decide (48 ≤ iv x)) && !(decide (iv x ≤ 57)))) (by kernel_rfl) x
  simp only [hcond, Bool.not_true, Bool.false_or, Bool.and_eq_true, Bool.not_eq_true'] at hk
  obtain ⟨⟨⟨⟨⟨⟨⟨⟨⟨h_46, h_small⟩, h_sign⟩, h_word⟩, h_33⟩, h_59⟩, h_40⟩, h_41⟩, g48⟩, g57⟩ := hk
  have HSM : Hid (∀ W, Calls Tryd.prog 26 #[.int .u8 (iv x)] W fun e w' => e = .returned (.bool false) ∧ w' = W) := Lib.hid (fun W => by have h := rsmall_any (iv x) W; rwa [h_small] at h)
  have HSG : Hid (∀ W, Calls Tryd.prog 28 #[.int .u8 (iv x)] W fun e w' => e = .returned (.bool false) ∧ w' = W) := Lib.hid (fun W => by have h := rsign_any x W; rwa [h_sign] at h)
  have HWD : Hid (∀ W, Calls Tryd.prog 27 #[.int .u8 (iv x)] W fun e w' => e = .returned (.bool false) ∧ w' = W) := Lib.hid (fun W => by have h := rword_any (iv x) W; rwa [h_word] at h)
  simp only [decide_eq_true_eq, decide_eq_false_iff_not] at g48 g57
  have hcv := run_part (i := i) (n := 1) (c := cap - i) (hb.later (two_only w (.cells #[.int .i64 0, .string ⟨#[]⟩, .int .i64 0, .int .i64 0, .bool false] 30) (.cells #[.int .i64 5, .string ⟨#[]⟩, .int .i64 0, .int .i64 i, .bool false] 30))) (by omega)
  rw [take_one hx] at hcv
  have hsz := bstr_size [x]
  rw [List.length_singleton] at hsz
  have q0 : (0 : Int) ≤ (i : Int) := by omega
  have q1 : (i : Int) < (bs.length : Int) := by omega
  have q2 : (i : Int) + 1 ≤ (bs.length : Int) := by omega
  have q3 : ((i : Int) + 1).toNat = i + 1 := by omega
  have q4 : i + 1 ≤ cap := by omega
  have hF : Hid (((w.alloc (.cells #[.int .i64 5, .string (bstr [x]), .int .i64 0, .int .i64 i, .bool false] 30)).alloc (.cells #[.int .i64 5, .string (bstr [x]), .int .i64 0, .int .i64 i, .bool false] 30)).heap[w.heap.size]? = some (.cells #[.int .i64 5, .string (bstr [x]), .int .i64 0, .int .i64 i, .bool false] 30)) := Lib.hid (first_of _ _ _)
  generalize hS : bstr [x] = S at *
  have bstr_S : Hid (bstr [x] = S) := Lib.hid hS
  clear hb hx c0 ho0 h_small h_sign h_word hS
  go_enter Tryd.func32, Tryd.ntmps32
  go_wp2_with fail
  refine (HSM.out _).mono ?_
  rintro e w1 ⟨rfl, rfl⟩
  go_wp2_with fail
  refine (HSG.out _).mono ?_
  rintro e w1 ⟨rfl, rfl⟩
  go_wp2_with fail
  refine (HWD.out _).mono ?_
  rintro e w1 ⟨rfl, rfl⟩
  go_wp2_with fail
  refine bodyPost_ret (v := .tuple #[tokV 5 S 0 i false, .int .i64 (i + 1 : Nat), .int .i64 0]) (results_tok rfl _ _ w.heap.size _ _ _ _ _ _ _ rfl rfl rfl hF.out) rfl ?_
  exact ⟨by rw [← bstr_S.out]; rfl, two_only _ _ _⟩
set_option maxRecDepth 100000 in
set_option maxHeartbeats 8000000 in
theorem one_punct93 (b off cap : Nat) (bs : List UInt8) (i : Nat) (x : UInt8) (w : World) (hb : Byts (some ⟨b, off, none⟩) bs w) (hi : i < bs.length) (hl : bs.length ≤ 1000000) (hc : bs.length ≤ cap) (hx : bs[i]? = some x) (hcond : (iv x == 93) = true) :
    Calls Tryd.prog 32 #[.slice (some ⟨b, off, none⟩) bs.length cap, .int .i64 i] w fun e w' => e = .returned (ansO i (.ok 5 [x] 0 1)) ∧ Only (fun _ => False) w w' := by
  obtain ⟨b', off', he, hb1, c0⟩ := hb i x hx
  cases he
  have ho0 : Only (fun _ => False) w (w.alloc (.cells #[.int .i64 0, .string ⟨#[]⟩, .int .i64 0, .int .i64 0, .bool false] 30)) := Only.alloc _ _ _
  have c0' := (ho0.cell (p := ⟨b, off + i, none⟩) hb1 (fun e => e)).trans c0
  have hk := byte_all (fun x => !(iv x == 93) || (!(iv x == 46) && !(smallB (iv x)) && !(signB (iv x)) && !(wordB (iv x)) && !(iv x == 33) && !(iv x == 59) && !(iv x == 40) && !(iv x == 41) && !(iv x == 91) && (decide (48 ≤ iv x)) && !(decide (iv x ≤ 57)))) (by kernel_rfl) x
  simp only [hcond, Bool.not_true, Bool.false_or, Bool.and_eq_true, Bool.not_eq_true'] at hk
  obtain ⟨⟨⟨⟨⟨⟨⟨⟨⟨⟨h_46, h_small⟩, h_sign⟩, h_word⟩, h_33⟩, h_59⟩, h_40⟩, h_41⟩, h_91⟩, g48⟩, g57⟩ := hk
  have HSM : Hid (∀ W, Calls Tryd.prog 26 #[.int .u8 (iv x)] W fun e w' => e = .returned (.bool false) ∧ w' = W) := Lib.hid (fun W => by have h := rsmall_any (iv x) W; rwa [h_small] at h)
  have HSG : Hid (∀ W, Calls Tryd.prog 28 #[.int .u8 (iv x)] W fun e w' => e = .returned (.bool false) ∧ w' = W) := Lib.hid (fun W => by have h := rsign_any x W; rwa [h_sign] at h)
  have HWD : Hid (∀ W, Calls Tryd.prog 27 #[.int .u8 (iv x)] W fun e w' => e = .returned (.bool false) ∧ w' = W) := Lib.hid (fun W => by have h := rword_any (iv x) W; rwa [h_word] at h)
  simp only [decide_eq_true_eq, decide_eq_false_iff_not] at g48 g57
  have hcv := run_part (i := i) (n := 1) (c := cap - i) (hb.later (two_only w (.cells #[.int .i64 0, .string ⟨#[]⟩, .int .i64 0, .int .i64 0, .bool false] 30) (.cells #[.int .i64 5, .string ⟨#[]⟩, .int .i64 0, .int .i64 i, .bool false] 30))) (by omega)
  rw [take_one hx] at hcv
  have hsz := bstr_size [x]
  rw [List.length_singleton] at hsz
  have q0 : (0 : Int) ≤ (i : Int) := by omega
  have q1 : (i : Int) < (bs.length : Int) := by omega
  have q2 : (i : Int) + 1 ≤ (bs.length : Int) := by omega
  have q3 : ((i : Int) + 1).toNat = i + 1 := by omega
  have q4 : i + 1 ≤ cap := by omega
  have hF : Hid (((w.alloc (.cells #[.int .i64 5, .string (bstr [x]), .int .i64 0, .int .i64 i, .bool false] 30)).alloc (.cells #[.int .i64 5, .string (bstr [x]), .int .i64 0, .int .i64 i, .bool false] 30)).heap[w.heap.size]? = some (.cells #[.int .i64 5, .string (bstr [x]), .int .i64 0, .int .i64 i, .bool false] 30)) := Lib.hid (first_of _ _ _)
  generalize hS : bstr [x] = S at *
  have bstr_S : Hid (bstr [x] = S) := Lib.hid hS
  clear hb hx c0 ho0 h_small h_sign h_word hS
  go_enter Tryd.func32, Tryd.ntmps32
  go_wp2_with fail
  refine (HSM.out _).mono ?_
  rintro e w1 ⟨rfl, rfl⟩
  go_wp2_with fail
  refine (HSG.out _).mono ?_
  rintro e w1 ⟨rfl, rfl⟩
  go_wp2_with fail
  refine (HWD.out _).mono ?_
  rintro e w1 ⟨rfl, rfl⟩
  go_wp2_with fail
  refine bodyPost_ret (v := .tuple #[tokV 5 S 0 i false, .int .i64 (i + 1 : Nat), .int .i64 0]) (results_tok rfl _ _ w.heap.size _ _ _ _ _ _ _ rfl rfl rfl hF.out) rfl ?_
  exact ⟨by rw [← bstr_S.out]; rfl, two_only _ _ _⟩
set_option maxRecDepth 100000 in
set_option maxHeartbeats 8000000 in
theorem one_punct123 (b off cap : Nat) (bs : List UInt8) (i : Nat) (x : UInt8) (w : World) (hb : Byts (some ⟨b, off, none⟩) bs w) (hi : i < bs.length) (hl : bs.length ≤ 1000000) (hc : bs.length ≤ cap) (hx : bs[i]? = some x) (hcond : (iv x == 123) = true) :
    Calls Tryd.prog 32 #[.slice (some ⟨b, off, none⟩) bs.length cap, .int .i64 i] w fun e w' => e = .returned (ansO i (.ok 5 [x] 0 1)) ∧ Only (fun _ => False) w w' := by
  obtain ⟨b', off', he, hb1, c0⟩ := hb i x hx
  cases he
  have ho0 : Only (fun _ => False) w (w.alloc (.cells #[.int .i64 0, .string ⟨#[]⟩, .int .i64 0, .int .i64 0, .bool false] 30)) := Only.alloc _ _ _
  have c0' := (ho0.cell (p := ⟨b, off + i, none⟩) hb1 (fun e => e)).trans c0
  have hk := byte_all (fun x => !(iv x == 123) || (!(iv x == 46) && !(smallB (iv x)) && !(signB (iv x)) && !(wordB (iv x)) && !(iv x == 33) && !(iv x == 59) && !(iv x == 40) && !(iv x == 41) && !(iv x == 91) && !(iv x == 93) && (decide (48 ≤ iv x)) && !(decide (iv x ≤ 57)))) (by kernel_rfl) x
  simp only [hcond, Bool.not_true, Bool.false_or, Bool.and_eq_true, Bool.not_eq_true'] at hk
  obtain ⟨⟨⟨⟨⟨⟨⟨⟨⟨⟨⟨h_46, h_small⟩, h_sign⟩, h_word⟩, h_33⟩, h_59⟩, h_40⟩, h_41⟩, h_91⟩, h_93⟩, g48⟩, g57⟩ := hk
  have HSM : Hid (∀ W, Calls Tryd.prog 26 #[.int .u8 (iv x)] W fun e w' => e = .returned (.bool false) ∧ w' = W) := Lib.hid (fun W => by have h := rsmall_any (iv x) W; rwa [h_small] at h)
  have HSG : Hid (∀ W, Calls Tryd.prog 28 #[.int .u8 (iv x)] W fun e w' => e = .returned (.bool false) ∧ w' = W) := Lib.hid (fun W => by have h := rsign_any x W; rwa [h_sign] at h)
  have HWD : Hid (∀ W, Calls Tryd.prog 27 #[.int .u8 (iv x)] W fun e w' => e = .returned (.bool false) ∧ w' = W) := Lib.hid (fun W => by have h := rword_any (iv x) W; rwa [h_word] at h)
  simp only [decide_eq_true_eq, decide_eq_false_iff_not] at g48 g57
  have hcv := run_part (i := i) (n := 1) (c := cap - i) (hb.later (two_only w (.cells #[.int .i64 0, .string ⟨#[]⟩, .int .i64 0, .int .i64 0, .bool false] 30) (.cells #[.int .i64 5, .string ⟨#[]⟩, .int .i64 0, .int .i64 i, .bool false] 30))) (by omega)
  rw [take_one hx] at hcv
  have hsz := bstr_size [x]
  rw [List.length_singleton] at hsz
  have q0 : (0 : Int) ≤ (i : Int) := by omega
  have q1 : (i : Int) < (bs.length : Int) := by omega
  have q2 : (i : Int) + 1 ≤ (bs.length : Int) := by omega
  have q3 : ((i : Int) + 1).toNat = i + 1 := by omega
  have q4 : i + 1 ≤ cap := by omega
  have hF : Hid (((w.alloc (.cells #[.int .i64 5, .string (bstr [x]), .int .i64 0, .int .i64 i, .bool false] 30)).alloc (.cells #[.int .i64 5, .string (bstr [x]), .int .i64 0, .int .i64 i, .bool false] 30)).heap[w.heap.size]? = some (.cells #[.int .i64 5, .string (bstr [x]), .int .i64 0, .int .i64 i, .bool false] 30)) := Lib.hid (first_of _ _ _)
  generalize hS : bstr [x] = S at *
  have bstr_S : Hid (bstr [x] = S) := Lib.hid hS
  clear hb hx c0 ho0 h_small h_sign h_word hS
  go_enter Tryd.func32, Tryd.ntmps32
  go_wp2_with fail
  refine (HSM.out _).mono ?_
  rintro e w1 ⟨rfl, rfl⟩
  go_wp2_with fail
  refine (HSG.out _).mono ?_
  rintro e w1 ⟨rfl, rfl⟩
  go_wp2_with fail
  refine (HWD.out _).mono ?_
  rintro e w1 ⟨rfl, rfl⟩
  go_wp2_with fail
  refine bodyPost_ret (v := .tuple #[tokV 5 S 0 i false, .int .i64 (i + 1 : Nat), .int .i64 0]) (results_tok rfl _ _ w.heap.size _ _ _ _ _ _ _ rfl rfl rfl hF.out) rfl ?_
  exact ⟨by rw [← bstr_S.out]; rfl, two_only _ _ _⟩
set_option maxRecDepth 100000 in
set_option maxHeartbeats 8000000 in
theorem one_punct125 (b off cap : Nat) (bs : List UInt8) (i : Nat) (x : UInt8) (w : World) (hb : Byts (some ⟨b, off, none⟩) bs w) (hi : i < bs.length) (hl : bs.length ≤ 1000000) (hc : bs.length ≤ cap) (hx : bs[i]? = some x) (hcond : (iv x == 125) = true) :
    Calls Tryd.prog 32 #[.slice (some ⟨b, off, none⟩) bs.length cap, .int .i64 i] w fun e w' => e = .returned (ansO i (.ok 5 [x] 0 1)) ∧ Only (fun _ => False) w w' := by
  obtain ⟨b', off', he, hb1, c0⟩ := hb i x hx
  cases he
  have ho0 : Only (fun _ => False) w (w.alloc (.cells #[.int .i64 0, .string ⟨#[]⟩, .int .i64 0, .int .i64 0, .bool false] 30)) := Only.alloc _ _ _
  have c0' := (ho0.cell (p := ⟨b, off + i, none⟩) hb1 (fun e => e)).trans c0
  have hk := byte_all (fun x => !(iv x == 125) || (!(iv x == 46) && !(smallB (iv x)) && !(signB (iv x)) && !(wordB (iv x)) && !(iv x == 33) && !(iv x == 59) && !(iv x == 40) && !(iv x == 41) && !(iv x == 91) && !(iv x == 93) && !(iv x == 123) && (decide (48 ≤ iv x)) && !(decide (iv x ≤ 57)))) (by kernel_rfl) x
  simp only [hcond, Bool.not_true, Bool.false_or, Bool.and_eq_true, Bool.not_eq_true'] at hk
  obtain ⟨⟨⟨⟨⟨⟨⟨⟨⟨⟨⟨⟨h_46, h_small⟩, h_sign⟩, h_word⟩, h_33⟩, h_59⟩, h_40⟩, h_41⟩, h_91⟩, h_93⟩, h_123⟩, g48⟩, g57⟩ := hk
  have HSM : Hid (∀ W, Calls Tryd.prog 26 #[.int .u8 (iv x)] W fun e w' => e = .returned (.bool false) ∧ w' = W) := Lib.hid (fun W => by have h := rsmall_any (iv x) W; rwa [h_small] at h)
  have HSG : Hid (∀ W, Calls Tryd.prog 28 #[.int .u8 (iv x)] W fun e w' => e = .returned (.bool false) ∧ w' = W) := Lib.hid (fun W => by have h := rsign_any x W; rwa [h_sign] at h)
  have HWD : Hid (∀ W, Calls Tryd.prog 27 #[.int .u8 (iv x)] W fun e w' => e = .returned (.bool false) ∧ w' = W) := Lib.hid (fun W => by have h := rword_any (iv x) W; rwa [h_word] at h)
  simp only [decide_eq_true_eq, decide_eq_false_iff_not] at g48 g57
  have hcv := run_part (i := i) (n := 1) (c := cap - i) (hb.later (two_only w (.cells #[.int .i64 0, .string ⟨#[]⟩, .int .i64 0, .int .i64 0, .bool false] 30) (.cells #[.int .i64 5, .string ⟨#[]⟩, .int .i64 0, .int .i64 i, .bool false] 30))) (by omega)
  rw [take_one hx] at hcv
  have hsz := bstr_size [x]
  rw [List.length_singleton] at hsz
  have q0 : (0 : Int) ≤ (i : Int) := by omega
  have q1 : (i : Int) < (bs.length : Int) := by omega
  have q2 : (i : Int) + 1 ≤ (bs.length : Int) := by omega
  have q3 : ((i : Int) + 1).toNat = i + 1 := by omega
  have q4 : i + 1 ≤ cap := by omega
  have hF : Hid (((w.alloc (.cells #[.int .i64 5, .string (bstr [x]), .int .i64 0, .int .i64 i, .bool false] 30)).alloc (.cells #[.int .i64 5, .string (bstr [x]), .int .i64 0, .int .i64 i, .bool false] 30)).heap[w.heap.size]? = some (.cells #[.int .i64 5, .string (bstr [x]), .int .i64 0, .int .i64 i, .bool false] 30)) := Lib.hid (first_of _ _ _)
  generalize hS : bstr [x] = S at *
  have bstr_S : Hid (bstr [x] = S) := Lib.hid hS
  clear hb hx c0 ho0 h_small h_sign h_word hS
  go_enter Tryd.func32, Tryd.ntmps32
  go_wp2_with fail
  refine (HSM.out _).mono ?_
  rintro e w1 ⟨rfl, rfl⟩
  go_wp2_with fail
  refine (HSG.out _).mono ?_
  rintro e w1 ⟨rfl, rfl⟩
  go_wp2_with fail
  refine (HWD.out _).mono ?_
  rintro e w1 ⟨rfl, rfl⟩
  go_wp2_with fail
  refine bodyPost_ret (v := .tuple #[tokV 5 S 0 i false, .int .i64 (i + 1 : Nat), .int .i64 0]) (results_tok rfl _ _ w.heap.size _ _ _ _ _ _ _ rfl rfl rfl hF.out) rfl ?_
  exact ⟨by rw [← bstr_S.out]; rfl, two_only _ _ _⟩
set_option maxRecDepth 100000 in
set_option maxHeartbeats 8000000 in
theorem one_punct44 (b off cap : Nat) (bs : List UInt8) (i : Nat) (x : UInt8) (w : World) (hb : Byts (some ⟨b, off, none⟩) bs w) (hi : i < bs.length) (hl : bs.length ≤ 1000000) (hc : bs.length ≤ cap) (hx : bs[i]? = some x) (hcond : (iv x == 44) = true) :
    Calls Tryd.prog 32 #[.slice (some ⟨b, off, none⟩) bs.length cap, .int .i64 i] w fun e w' => e = .returned (ansO i (.ok 5 [x] 0 1)) ∧ Only (fun _ => False) w w' := by
  obtain ⟨b', off', he, hb1, c0⟩ := hb i x hx
  cases he
  have ho0 : Only (fun _ => False) w (w.alloc (.cells #[.int .i64 0, .string ⟨#[]⟩, .int .i64 0, .int .i64 0, .bool false] 30)) := Only.alloc _ _ _
  have c0' := (ho0.cell (p := ⟨b, off + i, none⟩) hb1 (fun e => e)).trans c0
  have hk := byte_all (fun x => !(iv x == 44) || (!(iv x == 46) && !(smallB (iv x)) && !(signB (iv x)) && !(wordB (iv x)) && !(iv x == 33) && !(iv x == 59) && !(iv x == 40) && !(iv x == 41) && !(iv x == 91) && !(iv x == 93) && !(iv x == 123) && !(iv x == 125) && !(decide (48 ≤ iv x)) && (decide (iv x ≤ 57)))) (by kernel_rfl) x
  simp only [hcond, Bool.not_true, Bool.false_or, Bool.and_eq_true, Bool.not_eq_true'] at hk
  obtain ⟨⟨⟨⟨⟨⟨⟨⟨⟨⟨⟨⟨⟨h_46, h_small⟩, h_sign⟩, h_word⟩, h_33⟩, h_59⟩, h_40⟩, h_41⟩, h_91⟩, h_93⟩, h_123⟩, h_125⟩, g48⟩, g57⟩ := hk
  have HSM : Hid (∀ W, Calls Tryd.prog 26 #[.int .u8 (iv x)] W fun e w' => e = .returned (.bool false) ∧ w' = W) := Lib.hid (fun W => by have h := rsmall_any (iv x) W; rwa [h_small] at h)
  have HSG : Hid (∀ W, Calls Tryd.prog 28 #[.int .u8 (iv x)] W fun e w' => e = .returned (.bool false) ∧ w' = W) := Lib.hid (fun W => by have h := rsign_any x W; rwa [h_sign] at h)
  have HWD : Hid (∀ W, Calls Tryd.prog 27 #[.int .u8 (iv x)] W fun e w' => e = .returned (.bool false) ∧ w' = W) := Lib.hid (fun W => by have h := rword_any (iv x) W; rwa [h_word] at h)
  simp only [decide_eq_true_eq, decide_eq_false_iff_not] at g48 g57
  have hcv := run_part (i := i) (n := 1) (c := cap - i) (hb.later (two_only w (.cells #[.int .i64 0, .string ⟨#[]⟩, .int .i64 0, .int .i64 0, .bool false] 30) (.cells #[.int .i64 5, .string ⟨#[]⟩, .int .i64 0, .int .i64 i, .bool false] 30))) (by omega)
  rw [take_one hx] at hcv
  have hsz := bstr_size [x]
  rw [List.length_singleton] at hsz
  have q0 : (0 : Int) ≤ (i : Int) := by omega
  have q1 : (i : Int) < (bs.length : Int) := by omega
  have q2 : (i : Int) + 1 ≤ (bs.length : Int) := by omega
  have q3 : ((i : Int) + 1).toNat = i + 1 := by omega
  have q4 : i + 1 ≤ cap := by omega
  have hF : Hid (((w.alloc (.cells #[.int .i64 5, .string (bstr [x]), .int .i64 0, .int .i64 i, .bool false] 30)).alloc (.cells #[.int .i64 5, .string (bstr [x]), .int .i64 0, .int .i64 i, .bool false] 30)).heap[w.heap.size]? = some (.cells #[.int .i64 5, .string (bstr [x]), .int .i64 0, .int .i64 i, .bool false] 30)) := Lib.hid (first_of _ _ _)
  generalize hS : bstr [x] = S at *
  have bstr_S : Hid (bstr [x] = S) := Lib.hid hS
  clear hb hx c0 ho0 h_small h_sign h_word hS
  go_enter Tryd.func32, Tryd.ntmps32
  go_wp2_with fail
  refine (HSM.out _).mono ?_
  rintro e w1 ⟨rfl, rfl⟩
  go_wp2_with fail
  refine (HSG.out _).mono ?_
  rintro e w1 ⟨rfl, rfl⟩
  go_wp2_with fail
  refine (HWD.out _).mono ?_
  rintro e w1 ⟨rfl, rfl⟩
  go_wp2_with fail
  refine bodyPost_ret (v := .tuple #[tokV 5 S 0 i false, .int .i64 (i + 1 : Nat), .int .i64 0]) (results_tok rfl _ _ w.heap.size _ _ _ _ _ _ _ rfl rfl rfl hF.out) rfl ?_
  exact ⟨by rw [← bstr_S.out]; rfl, two_only _ _ _⟩
set_option maxRecDepth 100000 in
set_option maxHeartbeats 8000000 in
theorem one_punct124 (b off cap : Nat) (bs : List UInt8) (i : Nat) (x : UInt8) (w : World) (hb : Byts (some ⟨b, off, none⟩) bs w) (hi : i < bs.length) (hl : bs.length ≤ 1000000) (hc : bs.length ≤ cap) (hx : bs[i]? = some x) (hcond : (iv x == 124) = true) :
    Calls Tryd.prog 32 #[.slice (some ⟨b, off, none⟩) bs.length cap, .int .i64 i] w fun e w' => e = .returned (ansO i (.ok 5 [x] 0 1)) ∧ Only (fun _ => False) w w' := by
  obtain ⟨b', off', he, hb1, c0⟩ := hb i x hx
  cases he
  have ho0 : Only (fun _ => False) w (w.alloc (.cells #[.int .i64 0, .string ⟨#[]⟩, .int .i64 0, .int .i64 0, .bool false] 30)) := Only.alloc _ _ _
  have c0' := (ho0.cell (p := ⟨b, off + i, none⟩) hb1 (fun e => e)).trans c0
  have hk := byte_all (fun x => !(iv x == 124) || (!(iv x == 46) && !(smallB (iv x)) && !(signB (iv x)) && !(wordB (iv x)) && !(iv x == 33) && !(iv x == 59) && !(iv x == 40) && !(iv x == 41) && !(iv x == 91) && !(iv x == 93) && !(iv x == 123) && !(iv x == 125) && !(iv x == 44) && (decide (48 ≤ iv x)) && !(decide (iv x ≤ 57)))) (by kernel_rfl) x
  simp only [hcond, Bool.not_true, Bool.false_or, Bool.and_eq_true, Bool.not_eq_true'] at hk
  obtain ⟨⟨⟨⟨⟨⟨⟨⟨⟨⟨⟨⟨⟨⟨h_46, h_small⟩, h_sign⟩, h_word⟩, h_33⟩, h_59⟩, h_40⟩, h_41⟩, h_91⟩, h_93⟩, h_123⟩, h_125⟩, h_44⟩, g48⟩, g57⟩ := hk
  have HSM : Hid (∀ W, Calls Tryd.prog 26 #[.int .u8 (iv x)] W fun e w' => e = .returned (.bool false) ∧ w' = W) := Lib.hid (fun W => by have h := rsmall_any (iv x) W; rwa [h_small] at h)
  have HSG : Hid (∀ W, Calls Tryd.prog 28 #[.int .u8 (iv x)] W fun e w' => e = .returned (.bool false) ∧ w' = W) := Lib.hid (fun W => by have h := rsign_any x W; rwa [h_sign] at h)
  have HWD : Hid (∀ W, Calls Tryd.prog 27 #[.int .u8 (iv x)] W fun e w' => e = .returned (.bool false) ∧ w' = W) := Lib.hid (fun W => by have h := rword_any (iv x) W; rwa [h_word] at h)
  simp only [decide_eq_true_eq, decide_eq_false_iff_not] at g48 g57
  have hcv := run_part (i := i) (n := 1) (c := cap - i) (hb.later (two_only w (.cells #[.int .i64 0, .string ⟨#[]⟩, .int .i64 0, .int .i64 0, .bool false] 30) (.cells #[.int .i64 5, .string ⟨#[]⟩, .int .i64 0, .int .i64 i, .bool false] 30))) (by omega)
  rw [take_one hx] at hcv
  have hsz := bstr_size [x]
  rw [List.length_singleton] at hsz
  have q0 : (0 : Int) ≤ (i : Int) := by omega
  have q1 : (i : Int) < (bs.length : Int) := by omega
  have q2 : (i : Int) + 1 ≤ (bs.length : Int) := by omega
  have q3 : ((i : Int) + 1).toNat = i + 1 := by omega
  have q4 : i + 1 ≤ cap := by omega
  have hF : Hid (((w.alloc (.cells #[.int .i64 5, .string (bstr [x]), .int .i64 0, .int .i64 i, .bool false] 30)).alloc (.cells #[.int .i64 5, .string (bstr [x]), .int .i64 0, .int .i64 i, .bool false] 30)).heap[w.heap.size]? = some (.cells #[.int .i64 5, .string (bstr [x]), .int .i64 0, .int .i64 i, .bool false] 30)) := Lib.hid (first_of _ _ _)
  generalize hS : bstr [x] = S at *
  have bstr_S : Hid (bstr [x] = S) := Lib.hid hS
  clear hb hx c0 ho0 h_small h_sign h_word hS
  go_enter Tryd.func32, Tryd.ntmps32
  go_wp2_with fail
  refine (HSM.out _).mono ?_
  rintro e w1 ⟨rfl, rfl⟩
  go_wp2_with fail
  refine (HSG.out _).mono ?_
  rintro e w1 ⟨rfl, rfl⟩
  go_wp2_with fail
  refine (HWD.out _).mono ?_
  rintro e w1 ⟨rfl, rfl⟩
  go_wp2_with fail
  refine bodyPost_ret (v := .tuple #[tokV 5 S 0 i false, .int .i64 (i + 1 : Nat), .int .i64 0]) (results_tok rfl _ _ w.heap.size _ _ _ _ _ _ _ rfl rfl rfl hF.out) rfl ?_
  exact ⟨by rw [← bstr_S.out]; rfl, two_only _ _ _⟩
set_option maxRecDepth 100000 in
set_option maxHeartbeats 8000000 in
theorem one_small (b off cap : Nat) (bs : List UInt8) (i : Nat) (x : UInt8) (w : World) (hb : Byts (some ⟨b, off, none⟩) bs w) (hi : i < bs.length) (hl : bs.length ≤ 1000000) (hc : bs.length ≤ cap) (hx : bs[i]? = some x) (hcond : (smallB (iv x)) = true) :
    Calls Tryd.prog 32 #[.slice (some ⟨b, off, none⟩) bs.length cap, .int .i64 i] w fun e w' => e = .returned (ansO i (nameF 1 wordB (bs.drop i))) ∧ Only (fun _ => False) w w' := by
  obtain ⟨b', off', he, hb1, c0⟩ := hb i x hx
  cases he
  have ho0 : Only (fun _ => False) w (w.alloc (.cells #[.int .i64 0, .string ⟨#[]⟩, .int .i64 0, .int .i64 0, .bool false] 30)) := Only.alloc _ _ _
  have c0' := (ho0.cell (p := ⟨b, off + i, none⟩) hb1 (fun e => e)).trans c0
  have hk := byte_all (fun x => !(smallB (iv x)) || (!(iv x == 46))) (by kernel_rfl) x
  simp only [hcond, Bool.not_true, Bool.false_or, Bool.and_eq_true, Bool.not_eq_true'] at hk
  obtain h_46 := hk
  have h_small := hcond
  have HSM : Hid (∀ W, Calls Tryd.prog 26 #[.int .u8 (iv x)] W fun e w' => e = .returned (.bool true) ∧ w' = W) := Lib.hid (fun W => by have h := rsmall_any (iv x) W; rwa [h_small] at h)
  have hle := rowN_le wordB (bs.drop i)
  rw [List.length_drop] at hle
  have HRW : Hid (∀ W, Only (fun _ => False) w W → Calls Tryd.prog 51 #[.slice (some ⟨b, off, none⟩) bs.length cap, .int .i64 i, .int .i64 1] W fun e w' => e = .returned (.int .i64 (i + rowN wordB (bs.drop i) : Nat)) ∧ w' = W) := Lib.hid (fun W ho => rrow1_any _ cap bs i W (hb.later ho) (by omega) hl)
  have HRO := Lib.hid (HRW.out _ (two_only w (.cells #[.int .i64 0, .string ⟨#[]⟩, .int .i64 0, .int .i64 0, .bool false] 30) (.cells #[.int .i64 1, .string ⟨#[]⟩, .int .i64 0, .int .i64 i, .bool false] 30)))
  have HNF : Hid (nameF 1 wordB (bs.drop i) = if 64 < rowN wordB (bs.drop i) then .no 3 else .ok 1 ((bs.drop i).take (rowN wordB (bs.drop i))) 0 (rowN wordB (bs.drop i))) := Lib.hid rfl
  generalize nameF 1 wordB (bs.drop i) = NF at *
  generalize rowN wordB (bs.drop i) = n at *
  have hcv := run_part (i := i) (n := n) (c := cap - i) (hb.later (two_only w (.cells #[.int .i64 0, .string ⟨#[]⟩, .int .i64 0, .int .i64 0, .bool false] 30) (.cells #[.int .i64 1, .string ⟨#[]⟩, .int .i64 0, .int .i64 i, .bool false] 30))) (by omega)
  have hsz := bstr_size ((bs.drop i).take n)
  rw [take_len (by omega)] at hsz
  have q0 : (0 : Int) ≤ (i : Int) := by omega
  have q1 : (i : Int) < (bs.length : Int) := by omega
  have q1b : (i : Int) + (n : Int) ≤ (bs.length : Int) := by omega
  have q2 : (i : Int) ≤ (i : Int) + (n : Int) := by omega
  have q3 : ((i : Int) + (n : Int)).toNat = i + n := by omega
  have q4 : i + n ≤ cap := by omega
  have hsub : i + n - i = n := by omega
  have hF1 : Hid (∀ A, ((w.alloc (.cells #[.int .i64 0, .string ⟨#[]⟩, .int .i64 0, .int .i64 0, .bool false] 30)).alloc A).heap[w.heap.size]? = some (.cells #[.int .i64 0, .string ⟨#[]⟩, .int .i64 0, .int .i64 0, .bool false] 30)) := Lib.hid (fun A => first_of _ _ _)
  have hF2 : Hid (∀ A S, ((w.alloc (.cells #[.int .i64 1, .string S, .int .i64 0, .int .i64 i, .bool false] 30)).alloc A).heap[w.heap.size]? = some (.cells #[.int .i64 1, .string S, .int .i64 0, .int .i64 i, .bool false] 30)) := Lib.hid (fun A S => first_of _ _ _)
  generalize hS : bstr ((bs.drop i).take n) = S at *
  have HS := Lib.hid hS
  clear hb hx c0 ho0 h_small hcond hS HRW hle
  by_cases h64 : 64 < n
  · have g64 : (64 : Int) < (n : Int) := by omega
    have HN : Hid (NF = .no 3) := Lib.hid (by rw [HNF.out, if_pos h64])
    clear HNF h64
    go_enter Tryd.func32, Tryd.ntmps32
    go_wp2_with fail
    refine (HSM.out _).mono ?_
    rintro e w1 ⟨rfl, rfl⟩
    go_wp2_with fail
    refine HRO.out.mono ?_
    rintro e w1 ⟨rfl, rfl⟩
    go_wp2_with fail
    refine bodyPost_ret (v := ansO i (.no 3)) (results_tok rfl _ _ w.heap.size _ _ _ _ _ _ _ rfl rfl rfl (hF1.out _)) rfl ?_
    exact ⟨by rw [HN.out], two_only _ _ _⟩
  · have g64 : ¬ (64 : Int) < (n : Int) := by omega
    have HN : Hid (NF = .ok 1 ((bs.drop i).take n) 0 n) := Lib.hid (by rw [HNF.out, if_neg h64])
    clear HNF h64
    go_enter Tryd.func32, Tryd.ntmps32
    go_wp2_with fail
    refine (HSM.out _).mono ?_
    rintro e w1 ⟨rfl, rfl⟩
    go_wp2_with fail
    refine HRO.out.mono ?_
    rintro e w1 ⟨rfl, rfl⟩
    go_wp2_with fail
    refine bodyPost_ret (v := .tuple #[tokV 1 S 0 i false, .int .i64 (i + n : Nat), .int .i64 0]) (results_tok rfl _ _ w.heap.size _ _ _ _ _ _ _ rfl rfl rfl (hF2.out _ _)) rfl ?_
    exact ⟨by rw [HN.out, ← HS.out]; rfl, two_only _ _ _⟩
set_option maxRecDepth 100000 in
set_option maxHeartbeats 8000000 in
theorem one_sign (b off cap : Nat) (bs : List UInt8) (i : Nat) (x : UInt8) (w : World) (hb : Byts (some ⟨b, off, none⟩) bs w) (hi : i < bs.length) (hl : bs.length ≤ 1000000) (hc : bs.length ≤ cap) (hx : bs[i]? = some x) (hcond : (signB (iv x) && !(iv x == 46)) = true) :
    Calls Tryd.prog 32 #[.slice (some ⟨b, off, none⟩) bs.length cap, .int .i64 i] w fun e w' => e = .returned (ansO i (nameF 1 signB (bs.drop i))) ∧ Only (fun _ => False) w w' := by
  obtain ⟨b', off', he, hb1, c0⟩ := hb i x hx
  cases he
  have ho0 : Only (fun _ => False) w (w.alloc (.cells #[.int .i64 0, .string ⟨#[]⟩, .int .i64 0, .int .i64 0, .bool false] 30)) := Only.alloc _ _ _
  have c0' := (ho0.cell (p := ⟨b, off + i, none⟩) hb1 (fun e => e)).trans c0
  have hk := byte_all (fun x => !(signB (iv x) && !(iv x == 46)) || (!(iv x == 46) && !(smallB (iv x)) && (signB (iv x)))) (by kernel_rfl) x
  simp only [hcond, Bool.not_true, Bool.false_or, Bool.and_eq_true, Bool.not_eq_true'] at hk
  obtain ⟨⟨h_46, h_small⟩, h_sign⟩ := hk
  have HSM : Hid (∀ W, Calls Tryd.prog 26 #[.int .u8 (iv x)] W fun e w' => e = .returned (.bool false) ∧ w' = W) := Lib.hid (fun W => by have h := rsmall_any (iv x) W; rwa [h_small] at h)
  have HSG : Hid (∀ W, Calls Tryd.prog 28 #[.int .u8 (iv x)] W fun e w' => e = .returned (.bool true) ∧ w' = W) := Lib.hid (fun W => by have h := rsign_any x W; rwa [h_sign] at h)
  have hle := rowN_le signB (bs.drop i)
  rw [List.length_drop] at hle
  have HRW : Hid (∀ W, Only (fun _ => False) w W → Calls Tryd.prog 51 #[.slice (some ⟨b, off, none⟩) bs.length cap, .int .i64 i, .int .i64 2] W fun e w' => e = .returned (.int .i64 (i + rowN signB (bs.drop i) : Nat)) ∧ w' = W) := Lib.hid (fun W ho => rrow2_any _ cap bs i W (hb.later ho) (by omega) hl)
  have HRO := Lib.hid (HRW.out _ (two_only w (.cells #[.int .i64 0, .string ⟨#[]⟩, .int .i64 0, .int .i64 0, .bool false] 30) (.cells #[.int .i64 1, .string ⟨#[]⟩, .int .i64 0, .int .i64 i, .bool false] 30)))
  have HNF : Hid (nameF 1 signB (bs.drop i) = if 64 < rowN signB (bs.drop i) then .no 3 else .ok 1 ((bs.drop i).take (rowN signB (bs.drop i))) 0 (rowN signB (bs.drop i))) := Lib.hid rfl
  generalize nameF 1 signB (bs.drop i) = NF at *
  generalize rowN signB (bs.drop i) = n at *
  have hcv := run_part (i := i) (n := n) (c := cap - i) (hb.later (two_only w (.cells #[.int .i64 0, .string ⟨#[]⟩, .int .i64 0, .int .i64 0, .bool false] 30) (.cells #[.int .i64 1, .string ⟨#[]⟩, .int .i64 0, .int .i64 i, .bool false] 30))) (by omega)
  have hsz := bstr_size ((bs.drop i).take n)
  rw [take_len (by omega)] at hsz
  have q0 : (0 : Int) ≤ (i : Int) := by omega
  have q1 : (i : Int) < (bs.length : Int) := by omega
  have q1b : (i : Int) + (n : Int) ≤ (bs.length : Int) := by omega
  have q2 : (i : Int) ≤ (i : Int) + (n : Int) := by omega
  have q3 : ((i : Int) + (n : Int)).toNat = i + n := by omega
  have q4 : i + n ≤ cap := by omega
  have hsub : i + n - i = n := by omega
  have hF1 : Hid (∀ A, ((w.alloc (.cells #[.int .i64 0, .string ⟨#[]⟩, .int .i64 0, .int .i64 0, .bool false] 30)).alloc A).heap[w.heap.size]? = some (.cells #[.int .i64 0, .string ⟨#[]⟩, .int .i64 0, .int .i64 0, .bool false] 30)) := Lib.hid (fun A => first_of _ _ _)
  have hF2 : Hid (∀ A S, ((w.alloc (.cells #[.int .i64 1, .string S, .int .i64 0, .int .i64 i, .bool false] 30)).alloc A).heap[w.heap.size]? = some (.cells #[.int .i64 1, .string S, .int .i64 0, .int .i64 i, .bool false] 30)) := Lib.hid (fun A S => first_of _ _ _)
  generalize hS : bstr ((bs.drop i).take n) = S at *
  have HS := Lib.hid hS
  clear hb hx c0 ho0 h_small h_sign hcond hS HRW hle
  by_cases h64 : 64 < n
  · have g64 : (64 : Int) < (n : Int) := by omega
    have HN : Hid (NF = .no 3) := Lib.hid (by rw [HNF.out, if_pos h64])
    clear HNF h64
    go_enter Tryd.func32, Tryd.ntmps32
    go_wp2_with fail
    refine (HSM.out _).mono ?_
    rintro e w1 ⟨rfl, rfl⟩
    go_wp2_with fail
    refine (HSG.out _).mono ?_
    rintro e w1 ⟨rfl, rfl⟩
    go_wp2_with fail
    refine HRO.out.mono ?_
    rintro e w1 ⟨rfl, rfl⟩
    go_wp2_with fail
    refine bodyPost_ret (v := ansO i (.no 3)) (results_tok rfl _ _ w.heap.size _ _ _ _ _ _ _ rfl rfl rfl (hF1.out _)) rfl ?_
    exact ⟨by rw [HN.out], two_only _ _ _⟩
  · have g64 : ¬ (64 : Int) < (n : Int) := by omega
    have HN : Hid (NF = .ok 1 ((bs.drop i).take n) 0 n) := Lib.hid (by rw [HNF.out, if_neg h64])
    clear HNF h64
    go_enter Tryd.func32, Tryd.ntmps32
    go_wp2_with fail
    refine (HSM.out _).mono ?_
    rintro e w1 ⟨rfl, rfl⟩
    go_wp2_with fail
    refine (HSG.out _).mono ?_
    rintro e w1 ⟨rfl, rfl⟩
    go_wp2_with fail
    refine HRO.out.mono ?_
    rintro e w1 ⟨rfl, rfl⟩
    go_wp2_with fail
    refine bodyPost_ret (v := .tuple #[tokV 1 S 0 i false, .int .i64 (i + n : Nat), .int .i64 0]) (results_tok rfl _ _ w.heap.size _ _ _ _ _ _ _ rfl rfl rfl (hF2.out _ _)) rfl ?_
    exact ⟨by rw [HN.out, ← HS.out]; rfl, two_only _ _ _⟩
set_option maxRecDepth 100000 in
set_option maxHeartbeats 8000000 in
theorem one_cap (b off cap : Nat) (bs : List UInt8) (i : Nat) (x : UInt8) (w : World) (hb : Byts (some ⟨b, off, none⟩) bs w) (hi : i < bs.length) (hl : bs.length ≤ 1000000) (hc : bs.length ≤ cap) (hx : bs[i]? = some x) (hcond : (capB (iv x) || iv x == 95) = true) :
    Calls Tryd.prog 32 #[.slice (some ⟨b, off, none⟩) bs.length cap, .int .i64 i] w fun e w' => e = .returned (ansO i (nameF 3 wordB (bs.drop i))) ∧ Only (fun _ => False) w w' := by
  obtain ⟨b', off', he, hb1, c0⟩ := hb i x hx
  cases he
  have ho0 : Only (fun _ => False) w (w.alloc (.cells #[.int .i64 0, .string ⟨#[]⟩, .int .i64 0, .int .i64 0, .bool false] 30)) := Only.alloc _ _ _
  have c0' := (ho0.cell (p := ⟨b, off + i, none⟩) hb1 (fun e => e)).trans c0
  have hk := byte_all (fun x => !(capB (iv x) || iv x == 95) || (!(iv x == 46) && !(smallB (iv x)) && !(signB (iv x)) && (wordB (iv x)) && !(iv x == 33) && !(iv x == 59) && (decide (48 ≤ iv x)) && !(decide (iv x ≤ 57)))) (by kernel_rfl) x
  simp only [hcond, Bool.not_true, Bool.false_or, Bool.and_eq_true, Bool.not_eq_true'] at hk
  obtain ⟨⟨⟨⟨⟨⟨⟨h_46, h_small⟩, h_sign⟩, h_word⟩, h_33⟩, h_59⟩, g48⟩, g57⟩ := hk
  have HSM : Hid (∀ W, Calls Tryd.prog 26 #[.int .u8 (iv x)] W fun e w' => e = .returned (.bool false) ∧ w' = W) := Lib.hid (fun W => by have h := rsmall_any (iv x) W; rwa [h_small] at h)
  have HSG : Hid (∀ W, Calls Tryd.prog 28 #[.int .u8 (iv x)] W fun e w' => e = .returned (.bool false) ∧ w' = W) := Lib.hid (fun W => by have h := rsign_any x W; rwa [h_sign] at h)
  have HWD : Hid (∀ W, Calls Tryd.prog 27 #[.int .u8 (iv x)] W fun e w' => e = .returned (.bool true) ∧ w' = W) := Lib.hid (fun W => by have h := rword_any (iv x) W; rwa [h_word] at h)
  simp only [decide_eq_true_eq, decide_eq_false_iff_not] at g48 g57
  have hle := rowN_le wordB (bs.drop i)
  rw [List.length_drop] at hle
  have HRW : Hid (∀ W, Only (fun _ => False) w W → Calls Tryd.prog 51 #[.slice (some ⟨b, off, none⟩) bs.length cap, .int .i64 i, .int .i64 1] W fun e w' => e = .returned (.int .i64 (i + rowN wordB (bs.drop i) : Nat)) ∧ w' = W) := Lib.hid (fun W ho => rrow1_any _ cap bs i W (hb.later ho) (by omega) hl)
  have HRO := Lib.hid (HRW.out _ (two_only w (.cells #[.int .i64 0, .string ⟨#[]⟩, .int .i64 0, .int .i64 0, .bool false] 30) (.cells #[.int .i64 3, .string ⟨#[]⟩, .int .i64 0, .int .i64 i, .bool false] 30)))
  have HNF : Hid (nameF 3 wordB (bs.drop i) = if 64 < rowN wordB (bs.drop i) then .no 3 else .ok 3 ((bs.drop i).take (rowN wordB (bs.drop i))) 0 (rowN wordB (bs.drop i))) := Lib.hid rfl
  generalize nameF 3 wordB (bs.drop i) = NF at *
  generalize rowN wordB (bs.drop i) = n at *
  have hcv := run_part (i := i) (n := n) (c := cap - i) (hb.later (two_only w (.cells #[.int .i64 0, .string ⟨#[]⟩, .int .i64 0, .int .i64 0, .bool false] 30) (.cells #[.int .i64 3, .string ⟨#[]⟩, .int .i64 0, .int .i64 i, .bool false] 30))) (by omega)
  have hsz := bstr_size ((bs.drop i).take n)
  rw [take_len (by omega)] at hsz
  have q0 : (0 : Int) ≤ (i : Int) := by omega
  have q1 : (i : Int) < (bs.length : Int) := by omega
  have q1b : (i : Int) + (n : Int) ≤ (bs.length : Int) := by omega
  have q2 : (i : Int) ≤ (i : Int) + (n : Int) := by omega
  have q3 : ((i : Int) + (n : Int)).toNat = i + n := by omega
  have q4 : i + n ≤ cap := by omega
  have hsub : i + n - i = n := by omega
  have hF1 : Hid (∀ A, ((w.alloc (.cells #[.int .i64 0, .string ⟨#[]⟩, .int .i64 0, .int .i64 0, .bool false] 30)).alloc A).heap[w.heap.size]? = some (.cells #[.int .i64 0, .string ⟨#[]⟩, .int .i64 0, .int .i64 0, .bool false] 30)) := Lib.hid (fun A => first_of _ _ _)
  have hF2 : Hid (∀ A S, ((w.alloc (.cells #[.int .i64 3, .string S, .int .i64 0, .int .i64 i, .bool false] 30)).alloc A).heap[w.heap.size]? = some (.cells #[.int .i64 3, .string S, .int .i64 0, .int .i64 i, .bool false] 30)) := Lib.hid (fun A S => first_of _ _ _)
  generalize hS : bstr ((bs.drop i).take n) = S at *
  have HS := Lib.hid hS
  clear hb hx c0 ho0 h_small h_sign h_word hcond hS HRW hle
  by_cases h64 : 64 < n
  · have g64 : (64 : Int) < (n : Int) := by omega
    have HN : Hid (NF = .no 3) := Lib.hid (by rw [HNF.out, if_pos h64])
    clear HNF h64
    go_enter Tryd.func32, Tryd.ntmps32
    go_wp2_with fail
    refine (HSM.out _).mono ?_
    rintro e w1 ⟨rfl, rfl⟩
    go_wp2_with fail
    refine (HSG.out _).mono ?_
    rintro e w1 ⟨rfl, rfl⟩
    go_wp2_with fail
    refine (HWD.out _).mono ?_
    rintro e w1 ⟨rfl, rfl⟩
    go_wp2_with fail
    refine HRO.out.mono ?_
    rintro e w1 ⟨rfl, rfl⟩
    go_wp2_with fail
    refine bodyPost_ret (v := ansO i (.no 3)) (results_tok rfl _ _ w.heap.size _ _ _ _ _ _ _ rfl rfl rfl (hF1.out _)) rfl ?_
    exact ⟨by rw [HN.out], two_only _ _ _⟩
  · have g64 : ¬ (64 : Int) < (n : Int) := by omega
    have HN : Hid (NF = .ok 3 ((bs.drop i).take n) 0 n) := Lib.hid (by rw [HNF.out, if_neg h64])
    clear HNF h64
    go_enter Tryd.func32, Tryd.ntmps32
    go_wp2_with fail
    refine (HSM.out _).mono ?_
    rintro e w1 ⟨rfl, rfl⟩
    go_wp2_with fail
    refine (HSG.out _).mono ?_
    rintro e w1 ⟨rfl, rfl⟩
    go_wp2_with fail
    refine (HWD.out _).mono ?_
    rintro e w1 ⟨rfl, rfl⟩
    go_wp2_with fail
    refine HRO.out.mono ?_
    rintro e w1 ⟨rfl, rfl⟩
    go_wp2_with fail
    refine bodyPost_ret (v := .tuple #[tokV 3 S 0 i false, .int .i64 (i + n : Nat), .int .i64 0]) (results_tok rfl _ _ w.heap.size _ _ _ _ _ _ _ rfl rfl rfl (hF2.out _ _)) rfl ?_
    exact ⟨by rw [HN.out, ← HS.out]; rfl, two_only _ _ _⟩
end Go.Proofs.YtogccafnfpmgmaaDoor.toks
