/- Tokens: names and numbers. -/
import Derived.Test.YtogccafnfpmgmaaDoorTokD
namespace Go.Proofs.YtogccafnfpmgmaaDoor.toks
open Go.RowKit Go.Proofs.YtogccafnfpmgmaaDoor.own
theorem take_get {bs : List UInt8} {i n k : Nat} {y : UInt8} (h : ((bs.drop i).take n)[k]? = some y) : k < n ∧ bs[i + k]? = some y := by
  have hk := (List.getElem?_eq_some_iff.1 h).1
  rw [List.length_take] at hk
  rw [List.getElem?_take, if_pos (by omega), List.getElem?_drop] at h
  exact ⟨by omega, h⟩
theorem take_len {bs : List UInt8} {i n : Nat} (h : i + n ≤ bs.length) : ((bs.drop i).take n).length = n := by rw [List.length_take, List.length_drop]; omega
theorem run_part {bs : List UInt8} {b off i n c : Nat} {W : World} (h : Byts (some ⟨b, off, none⟩) bs W) (hin : i + n ≤ bs.length) : (convert 22 9 (.slice (some ⟨b, off + i, none⟩) n c)).run Tryd.prog W = .ok (.string (bstr ((bs.drop i).take n))) W := by
  have := run_bytes W b (off + i) c ((bs.drop i).take n) (fun k y hy => by
    obtain ⟨hk, hy2⟩ := take_get hy
    obtain ⟨b', off', he, _, c0⟩ := h (i + k) y hy2
    cases he
    rw [Nat.add_assoc]
    exact c0)
  rw [take_len hin] at this
  exact this
set_option maxRecDepth 100000 in
set_option maxHeartbeats 4000000 in
theorem name_any (K : Nat) (g : Int → Bool) (hK : ∀ (c : Int) (W : World), Calls Tryd.prog K #[.int .i32 c] W fun e w' => e = .returned (.bool (g c)) ∧ w' = W)
    (hE : ∀ args w, (callFunc K args).run Tryd.prog w = .ok (.enter K args) w) (kd : Int) (ao : Option Addr) (cap : Nat) (bs : List UInt8) (i : Nat) (w : World) (hb : Byts ao bs w) (hi : i < bs.length) (hl : bs.length ≤ 1000000) (hc : bs.length ≤ cap) :
    Calls Tryd.prog 45 #[.int .i64 kd, .slice ao bs.length cap, .int .i64 i, .func (.func K) #[] #[]] w fun e w' => e = .returned (ansR i (nameF kd g (bs.drop i))) ∧ Only (fun _ => False) w w' := by
  obtain ⟨x, hx⟩ : ∃ x, bs[i]? = some x := ⟨_, List.getElem?_eq_getElem hi⟩
  obtain ⟨b, off, rfl, hb1, c0⟩ := hb i x hx
  have HR : Hid (∀ W, Only (fun _ => False) w W → Calls Tryd.prog 39 #[.slice (some ⟨b, off, none⟩) bs.length cap, .int .i64 i, .func (.func K) #[] #[]] W fun e w' => e = .returned (.int .i64 (i + rowN g (bs.drop i) : Nat)) ∧ w' = W) := Lib.hid (fun W ho => row_any K g hK hE _ cap bs i W (hb.later ho) (by omega) hl)
  have hle := rowN_le g (bs.drop i)
  rw [List.length_drop] at hle
  have HF : Hid (nameF kd g (bs.drop i) = if 64 < rowN g (bs.drop i) then .no 3 else .ok kd ((bs.drop i).take (rowN g (bs.drop i))) 0 (rowN g (bs.drop i))) := Lib.hid rfl
  have HB := Lib.hid hb
  have ho0 : Only (fun _ => False) w (w.alloc (.cells #[.int .i64 0, .string ⟨#[]⟩, .int .i64 0, .int .i64 0, .bool false] 30)) := Only.alloc _ _ _
  have HR0 := Lib.hid (HR.out _ ho0)
  have HB0 := Lib.hid (hb.later ho0)
  clear hK hE hb c0 hx
  generalize rowN g (bs.drop i) = n at *
  have hw1 : wrap64 (((i + n : Nat) : Int) - (i : Int)) = (n : Int) := by unfold wrap64; omega
  have hw2 : wrap64 ((i : Int) + (n : Int) - (i : Int)) = (n : Int) := by unfold wrap64; omega
  by_cases h64 : 64 < n
  · have h1 : (64 : Int) < (n : Int) := by omega
    go_enter Tryd.func45, Tryd.ntmps45
    go_wp2_with fail
    refine HR0.out.mono ?_
    rintro e w1 ⟨rfl, rfl⟩
    go_wp2_with fail
    refine bodyPost_ret (v := .tuple #[tokV 0 ⟨#[]⟩ 0 0 false, .int .i64 i, .int .i64 3]) (results_tok rfl _ _ w.heap.size _ _ _ _ _ _ _ rfl rfl rfl (heap_alloc_new w _)) rfl ?_
    exact ⟨by rw [HF.out, if_pos h64]; rfl, Only.alloc _ _ _⟩
  · have h1 : ¬ (64 : Int) < (n : Int) := by omega
    have q0 : (0 : Int) ≤ (i : Int) := by omega
    have q1 : (i : Int) + (n : Int) ≤ (bs.length : Int) := by omega
    have q2 : (i : Int) ≤ (i : Int) + (n : Int) := by omega
    have q3 : ((i : Int) + (n : Int)).toNat = i + n := by omega
    have q4 : i + n ≤ cap := by omega
    have hcv : ∀ c, (convert 22 9 (.slice (some ⟨b, off + i, none⟩) n c)).run Tryd.prog (w.alloc (.cells #[.int .i64 0, .string ⟨#[]⟩, .int .i64 0, .int .i64 0, .bool false] 30)) = .ok (.string (bstr ((bs.drop i).take n))) (w.alloc (.cells #[.int .i64 0, .string ⟨#[]⟩, .int .i64 0, .int .i64 0, .bool false] 30)) := fun c => run_part HB0.out (by omega)
    have hsub : i + n - i = n := by omega
    go_enter Tryd.func45, Tryd.ntmps45
    go_wp2_with fail
    refine HR0.out.mono ?_
    rintro e w1 ⟨rfl, rfl⟩
    go_wp2_with fail
    refine bodyPost_ret (v := .tuple #[tokV kd (bstr ((bs.drop i).take n)) 0 0 false, .int .i64 (i + n : Nat), .int .i64 0]) (results_tok rfl _ _ w.heap.size _ _ _ _ _ _ _ rfl rfl rfl (heap_alloc_new w _)) rfl ?_
    exact ⟨by rw [HF.out, if_neg h64]; rfl, Only.alloc _ _ _⟩
/-- The box that a token is written into. -/
abbrev OBox (b : Nat) (W : World) : Prop := W.heap[b]? = some (.cells #[.int .i64 0, .string ⟨#[]⟩, .int .i64 0, .int .i64 0, .bool false] 30 (0, 0))
def numN : Int → List UInt8 → Option Int
  | a, [] => some a
  | a, x :: r => if 9007199254740991 < 10 * a + (iv x - 48) then none else numN (10 * a + (iv x - 48)) r
def numberF (r : List UInt8) : TR := match numN 0 (r.take (rowN digB r)) with
  | some v => .ok 4 [] v (rowN digB r)
  | none => .no 81
theorem row_all (g : Int → Bool) : ∀ (r : List UInt8) (k : Nat) (x : UInt8), k < rowN g r → r[k]? = some x → g (iv x) = true
  | [], k, x, h, hx => by cases hx
  | y :: r, k, x, h, hx => by
    unfold rowN at h
    cases hg : g (iv y) with
    | false => rw [if_neg (by rw [hg]; decide)] at h; omega
    | true =>
      rw [if_pos hg] at h
      cases k with
      | zero => cases hx; exact hg
      | succ k => exact row_all g r k x (by omega) hx
set_option maxRecDepth 100000 in
set_option maxHeartbeats 4000000 in
theorem number_any (ao : Option Addr) (cap : Nat) (bs : List UInt8) (i : Nat) (w : World) (hb : Byts ao bs w) (hi : i < bs.length) (hl : bs.length ≤ 1000000) (hc : bs.length ≤ cap) :
    Calls Tryd.prog 46 #[.slice ao bs.length cap, .int .i64 i] w fun e w' => e = .returned (ansR i (numberF (bs.drop i))) ∧ Only (fun _ => False) w w' := by
  obtain ⟨x, hx⟩ : ∃ x, bs[i]? = some x := ⟨_, List.getElem?_eq_getElem hi⟩
  obtain ⟨b, off, rfl, hb1, c0⟩ := hb i x hx
  have HR : Hid (∀ W, Only (fun _ => False) w W → Calls Tryd.prog 39 #[.slice (some ⟨b, off, none⟩) bs.length cap, .int .i64 i, .func (.func 37) #[] #[]] W fun e w' => e = .returned (.int .i64 (i + rowN digB (bs.drop i) : Nat)) ∧ w' = W) := Lib.hid (fun W ho => row_any _ digB isDigit_any (fun _ _ => rfl) _ cap bs i W (hb.later ho) (by omega) hl)
  have hle := rowN_le digB (bs.drop i)
  rw [List.length_drop] at hle
  have HD : Hid (∀ k y, k < rowN digB (bs.drop i) → bs[i + k]? = some y → digB (iv y) = true) := Lib.hid (fun k y h1 h2 => row_all digB (bs.drop i) k y h1 (by rw [List.getElem?_drop]; exact h2))
  have HF : Hid (numberF (bs.drop i) = match numN 0 ((bs.drop i).take (rowN digB (bs.drop i))) with | some v => .ok 4 [] v (rowN digB (bs.drop i)) | none => .no 81) := Lib.hid rfl
  have ho0 : Only (fun _ => False) w (w.alloc (.cells #[.int .i64 0, .string ⟨#[]⟩, .int .i64 0, .int .i64 0, .bool false] 30)) := Only.alloc _ _ _
  have HR0 := Lib.hid (HR.out _ ho0)
  have HB0 := Lib.hid (hb.later ho0)
  clear hb c0 hx
  generalize rowN digB (bs.drop i) = n at *
  have q0 : (0 : Int) ≤ (i : Int) := by omega
  have q1 : (i : Int) + (n : Int) ≤ (bs.length : Int) := by omega
  have q2 : (i : Int) ≤ (i : Int) + (n : Int) := by omega
  have q3 : ((i : Int) + (n : Int)).toNat = i + n := by omega
  have q4 : i + n ≤ cap := by omega
  have hsub : i + n - i = n := by omega
  have hN : (((bs.drop i).take n)).length = n := take_len (by omega)
  have HST : Hid (numN 0 ((bs.drop i).take n) = numN 0 (((bs.drop i).take n).drop 0)) := Lib.hid (by rw [List.drop_zero])
  go_enter Tryd.func46, Tryd.ntmps46
  go_wp2_with fail
  refine HR0.out.mono ?_
  rintro e w1 ⟨rfl, rfl⟩
  go_wp2_with fail
  clear ho0 HR HR0
  go_loopw [8, 19] (fun a c wr => ∃ (k : Nat) (v : Int), wr = (w.alloc (.cells #[.int .i64 0, .string ⟨#[]⟩, .int .i64 0, .int .i64 0, .bool false] 30)) ∧ c = .int .i64 k ∧ k ≤ n ∧ a = .int .i64 v ∧ Hid (numN 0 ((bs.drop i).take n) = numN v (((bs.drop i).take n).drop k) ∧ 0 ≤ v ∧ v ≤ 9007199254740991)) (fun _ c _ => n - (intOf c).toNat)
  case atStart => exact ⟨0, 0, rfl, rfl, by omega, rfl, Lib.hid ⟨HST.out, by omega, by omega⟩⟩
  case round =>
    obtain ⟨k, v, rfl, rfl, hk, rfl, hI⟩ := hrel
    clear HST
    by_cases hlt : k < n
    · obtain ⟨y, hy⟩ : ∃ y, bs[i + k]? = some y := ⟨_, List.getElem?_eq_getElem (by omega)⟩
      obtain ⟨b', off', he, hb2, c1⟩ := HB0.out (i + k) y hy
      cases he
      have hd := HD.out k y hlt hy
      obtain ⟨v0, v1⟩ := hI.out.2
      have hv2 : 0 ≤ iv y - 48 ∧ iv y - 48 ≤ 9 := by
        unfold digB at hd
        simp only [Bool.and_eq_true, decide_eq_true_eq] at hd
        omega
      have hstep : ((bs.drop i).take n).drop k = y :: ((bs.drop i).take n).drop (k + 1) := drop_at (by rw [List.getElem?_take, if_pos hlt, List.getElem?_drop]; exact hy)
      have HNX : Hid (numN 0 ((bs.drop i).take n) = if 9007199254740991 < 10 * v + (iv y - 48) then none else numN (10 * v + (iv y - 48)) (((bs.drop i).take n).drop (k + 1))) := Lib.hid (by rw [hI.out.1, hstep]; rfl)
      rw [← Nat.add_assoc] at c1
      have p0 : (0 : Int) ≤ (k : Int) := by omega
      have p1 : (k : Int) < (n : Int) := by omega
      generalize iv y = c at *
      have hw3 : IntKind.u8.wrap (c - 48) = c - 48 := by simp [IntKind.wrap, IntKind.bits, IntKind.signed]; omega
      have hw4 : wrap64 (10 * v) = 10 * v := by unfold wrap64; omega
      have hw5 : wrap64 (10 * v + (c - 48)) = 10 * v + (c - 48) := by unfold wrap64; omega
      have hw6 : wrap64 (c - 48) = c - 48 := by unfold wrap64; omega
      clear hd hstep hy hb2
      by_cases hbig : 9007199254740991 < 10 * v + (c - 48)
      · have HNO : Hid (numberF (bs.drop i) = .no 81) := Lib.hid (by rw [HF.out, HNX.out, if_pos hbig])
        clear HNX
        go_wp2_with fail
        refine bodyPost_ret (v := .tuple #[tokV 0 ⟨#[]⟩ 0 0 false, .int .i64 i, .int .i64 81]) (results_tok rfl _ _ w.heap.size _ _ _ _ _ _ _ rfl rfl rfl (heap_alloc_new w _)) rfl ?_
        exact ⟨by rw [HNO.out]; rfl, Only.alloc _ _ _⟩
      · have HN2 : Hid (numN 0 ((bs.drop i).take n) = numN (10 * v + (c - 48)) (((bs.drop i).take n).drop (k + 1))) := Lib.hid (by rw [HNX.out, if_neg hbig])
        clear HNX
        go_wp2_with fail
        go_roundw
        case rel => exact ⟨k + 1, 10 * v + (c - 48), by trivial, by go_num, by omega, rfl, Lib.hid ⟨HN2.out, by omega, by omega⟩⟩
        case measure => simp [intOf]; omega
    · obtain rfl : k = n := by omega
      have HNO : Hid (numberF (bs.drop i) = .ok 4 [] v k) := Lib.hid (by
        have h1 := hI.out.1
        have hz : ((bs.drop i).take k).drop k = [] := List.drop_eq_nil_of_le (by omega)
        rw [hz] at h1
        rw [HF.out, h1]
        rfl)
      clear HF
      go_wp2_with fail
      refine bodyPost_ret (v := .tuple #[tokV 4 ⟨#[]⟩ v 0 false, .int .i64 (i + k : Nat), .int .i64 0]) (results_tok rfl _ _ w.heap.size _ _ _ _ _ _ _ rfl rfl rfl (heap_alloc_new w _)) rfl ?_
      exact ⟨by rw [HNO.out]; rfl, Only.alloc _ _ _⟩
end Go.Proofs.YtogccafnfpmgmaaDoor.toks
