/- Tokens: bytes of a text; rows of bytes; comments; layout. -/
import Derived.Test.YtogccafnfpmgmaaDoorTok3
namespace Go.Proofs.YtogccafnfpmgmaaDoor.toks
open Go.RowKit Go.Proofs.YtogccafnfpmgmaaDoor.own
/-- A byte as a number. -/
def iv (x : UInt8) : Int := (x.toNat : Int)
theorem iv_pos (x : UInt8) : 0 ≤ iv x := by unfold iv; omega
theorem iv_lt (x : UInt8) : iv x < 256 := by have := UInt8.toNat_lt x; unfold iv; omega
/-- These bytes lie where a slice says. -/
def Byts (ao : Option Addr) (bs : List UInt8) (W : World) : Prop := ∀ (i : Nat) (x : UInt8), bs[i]? = some x → ∃ b off, ao = some ⟨b, off, none⟩ ∧ b < W.heap.size ∧ W.cell? ⟨b, off + i, none⟩ = some (.int .u8 (iv x))
theorem Byts.only {ao : Option Addr} {bs : List UInt8} {W W' : World} {S : Nat → Prop} (h : Byts ao bs W) (ho : Only S W W') (hS : ∀ q, q < W.heap.size → ¬ S q) : Byts ao bs W' := fun i x hx => by
  obtain ⟨b, off, h1, h2, c0⟩ := h i x hx
  exact ⟨b, off, h1, Nat.lt_of_lt_of_le h2 ho.size, (ho.cell (p := ⟨b, _, none⟩) h2 (hS b h2)).trans c0⟩
theorem Byts.later {ao : Option Addr} {bs : List UInt8} {W W' : World} (h : Byts ao bs W) (ho : Only (fun _ => False) W W') : Byts ao bs W' := h.only ho (fun _ _ e => e)
theorem wrapU (x : UInt8) : wrap32 (iv x) = iv x := by
  have := UInt8.toNat_lt x
  unfold wrap32 iv
  omega
theorem drop_at {bs : List UInt8} {i : Nat} {x : UInt8} (h : bs[i]? = some x) : bs.drop i = x :: bs.drop (i + 1) := by
  obtain ⟨hi, e⟩ := List.getElem?_eq_some_iff.1 h
  rw [List.drop_eq_getElem_cons hi, e]
theorem drop_end {bs : List UInt8} {i : Nat} (h : ¬ i < bs.length) : bs.drop i = [] := List.drop_eq_nil_of_le (by omega)
/-- How many at the beginning belong. -/
def rowN (g : Int → Bool) : List UInt8 → Nat
  | [] => 0
  | x :: r => if g (iv x) = true then rowN g r + 1 else 0
theorem rowN_le (g : Int → Bool) : ∀ r, rowN g r ≤ r.length
  | [] => Nat.le_refl _
  | x :: r => by
    unfold rowN
    split
    · have := rowN_le g r
      simp only [List.length_cons]
      omega
    · omega
set_option maxRecDepth 100000 in
set_option maxHeartbeats 2000000 in
theorem row_any (K : Nat) (g : Int → Bool) (hK : ∀ (c : Int) (W : World), Calls Tryd.prog K #[.int .i32 c] W fun e w' => e = .returned (.bool (g c)) ∧ w' = W)
    (hE : ∀ args w, (callFunc K args).run Tryd.prog w = .ok (.enter K args) w) (ao : Option Addr) (cap : Nat) (bs : List UInt8) (i : Nat) (w : World) (hb : Byts ao bs w) (hi : i ≤ bs.length) (hl : bs.length ≤ 1000000) :
    Calls Tryd.prog 39 #[.slice ao bs.length cap, .int .i64 i, .func (.func K) #[] #[]] w fun e w' => e = .returned (.int .i64 (i + rowN g (bs.drop i) : Nat)) ∧ w' = w := by
  have HK := Lib.hid hK
  have HB := Lib.hid hb
  clear hK hb
  go_enter Tryd.func39, Tryd.ntmps39
  go_wp2_with fail
  go_loopw [1] (fun c wr => ∃ j : Nat, wr = w ∧ c = .int .i64 j ∧ j ≤ bs.length ∧ Hid (j + rowN g (bs.drop j) = i + rowN g (bs.drop i))) (fun c _ => bs.length - (intOf c).toNat)
  case atStart => exact ⟨i, rfl, rfl, hi, Lib.hid rfl⟩
  case round =>
    obtain ⟨j, rfl, rfl, hj, hI⟩ := hrel
    by_cases hlt : j < bs.length
    · obtain ⟨x, hx⟩ : ∃ x, bs[j]? = some x := ⟨_, List.getElem?_eq_getElem hlt⟩
      obtain ⟨b, off, rfl, hb1, c0⟩ := HB.out j x hx
      have q0 : (0 : Int) ≤ (j : Int) := by omega
      have q1 : (j : Int) < (bs.length : Int) := by omega
      have hwr := wrapU x
      have HR : Hid (rowN g (bs.drop j) = if g (iv x) = true then rowN g (bs.drop (j + 1)) + 1 else 0) := Lib.hid (by rw [drop_at hx]; rfl)
      clear hx hb1
      go_wp2_with fail
      refine (HK.out _ _).mono ?_
      rintro e w1 ⟨rfl, rfl⟩
      cases hg : g (iv x) with
      | true =>
        have HN : Hid (j + 1 + rowN g (bs.drop (j + 1)) = i + rowN g (bs.drop i)) := Lib.hid (by have h1 := hI.out; rw [HR.out, if_pos hg] at h1; omega)
        go_wp2_with fail
        go_roundw
        case rel => exact ⟨j + 1, by trivial, by go_num, by omega, HN⟩
        case measure => simp [intOf]; omega
      | false =>
        have HN : Hid (j = i + rowN g (bs.drop i)) := Lib.hid (by have h1 := hI.out; rw [HR.out, if_neg (by rw [hg]; decide)] at h1; omega)
        go_wp2_with fail
        go_ret
        exact ⟨by rw [← HN.out]; rfl, by trivial⟩
    · have HN : Hid (j = i + rowN g (bs.drop i)) := Lib.hid (by have h1 := hI.out; rw [drop_end hlt] at h1; simpa [rowN] using h1)
      obtain rfl : j = bs.length := by omega
      go_wp2_with fail
      go_ret
      exact ⟨by rw [← HN.out]; rfl, by trivial⟩
def openC : List UInt8 → Bool
  | x :: y :: _ => iv x == 47 && iv y == 42
  | _ => false
/-- How many bytes up to the end of a comment. -/
def closeN : List UInt8 → Option Nat
  | x :: y :: r => if (iv x == 42 && iv y == 47) = true then some 2 else (closeN (y :: r)).map (· + 1)
  | _ => none
theorem openC_short {bs : List UInt8} {i : Nat} (h : ¬ i + 1 < bs.length) : openC (bs.drop i) = false := by
  have : (bs.drop i).length ≤ 1 := by rw [List.length_drop]; omega
  match bs.drop i, this with
  | [], _ => rfl
  | [_], _ => rfl
set_option maxRecDepth 100000 in
set_option maxHeartbeats 2000000 in
theorem opens_any (ao : Option Addr) (cap : Nat) (bs : List UInt8) (i : Nat) (w : World) (hb : Byts ao bs w) (hl : bs.length ≤ 1000000) (hi : i ≤ bs.length) :
    Calls Tryd.prog 41 #[.slice ao bs.length cap, .int .i64 i] w fun e w' => e = .returned (.bool (openC (bs.drop i))) ∧ w' = w := by
  have hw1 : wrap64 ((i : Int) + 1) = (i : Int) + 1 := by unfold wrap64; omega
  by_cases hlt : i + 1 < bs.length
  · obtain ⟨x, hx⟩ : ∃ x, bs[i]? = some x := ⟨_, List.getElem?_eq_getElem (by omega)⟩
    obtain ⟨y, hy⟩ : ∃ y, bs[i + 1]? = some y := ⟨_, List.getElem?_eq_getElem hlt⟩
    obtain ⟨b, off, rfl, hb1, c0⟩ := hb i x hx
    obtain ⟨b', off', he, hb2, c1⟩ := hb (i + 1) y hy
    cases he
    have HE : Hid (openC (bs.drop i) = ((iv x == 47) && (iv y == 42))) := Lib.hid (by rw [drop_at hx, drop_at hy]; rfl)
    have q0 : (0 : Int) ≤ (i : Int) := by omega
    have q1 : (i : Int) + 1 < (bs.length : Int) := by omega
    have q2 : (i : Int) < (bs.length : Int) := by omega
    have q3 : (0 : Int) ≤ (i : Int) + 1 := by omega
    have q4 : ((i : Int) + 1).toNat = i + 1 := by omega
    clear hx hy hb1 hb2 hb
    cases h1 : (iv x == 47) with
    | true =>
      rw [h1] at HE
      go_enter Tryd.func41, Tryd.ntmps41
      go_wp2_with fail
      go_ret
      exact ⟨by rw [HE.out]; rfl, by trivial⟩
    | false =>
      rw [h1] at HE
      go_enter Tryd.func41, Tryd.ntmps41
      go_wp2_with fail
      go_ret
      exact ⟨by rw [HE.out]; rfl, by trivial⟩
  · have HE : Hid (openC (bs.drop i) = false) := Lib.hid (openC_short hlt)
    have q1 : ¬ (i : Int) + 1 < (bs.length : Int) := by omega
    go_enter Tryd.func41, Tryd.ntmps41
    go_wp2_with fail
    go_ret
    exact ⟨by rw [HE.out]; rfl, by trivial⟩
end Go.Proofs.YtogccafnfpmgmaaDoor.toks
