/- Tokens: whether a name may stand as it is. -/
import Derived.Test.YtodgjkdhkohckaaDoorTok2
import Derived.Test.YtodgjkdhkohckaaDoorShelf
namespace Go.Proofs.YtodgjkdhkohckaaDoor.toks
open Go.RowKit Go.Proofs.YtodgjkdhkohckaaDoor.own
def freeB (s : ByteArray) : Bool := s.toList == [33] || (s.toList == [59] || (s.toList == [91, 93] || s.toList == [123, 125]))
def barB (s : ByteArray) : Bool := s.toList == [] || s.toList == [46]
def plainB (s : ByteArray) : Bool := if freeB s = true then true else if barB s = true then false else if smallB (((s.toList.headD 0).toNat : Nat) : Int) = true then allB wordB s else !(Lib.hasPrefix s.data.toList [47, 42]) && allB signB s
theorem small_hi (c : Int) (h : 128 ≤ c) : smallB c = false := by unfold smallB; simp; omega
theorem word_hi (c : Int) (h : 128 ≤ c) : wordB c = false := by unfold wordB smallB capB digB; simp; omega
theorem sign_hi (c : Int) (h : 128 ≤ c) : signB c = false := by unfold signB; simp; omega
theorem head_of {s : ByteArray} (h : (s.toList == []) = false) : ∃ h0 : 0 < s.size, (s.toList.headD 0) = s[0]'h0 := by
  have h0 : 0 < s.size := by
    rcases Nat.eq_zero_or_pos s.size with e | e
    · exfalso
      have : s.data = #[] := by
        have := s.data
        exact Array.eq_empty_of_size_eq_zero e
      rw [ByteArray.toList_eq, this] at h
      cases h
    · exact e
  refine ⟨h0, ?_⟩
  have hl : 0 < s.data.toList.length := by simpa using h0
  rw [ByteArray.toList_eq, ByteArray.getElem_eq_getElem_data]
  cases hd : s.data.toList with
  | nil => rw [hd] at hl; cases hl
  | cons a l =>
    have : s.data[0]? = some a := by rw [← Array.getElem?_toList, hd]; rfl
    rw [List.headD_cons]
    have h3 := Array.getElem?_eq_getElem (xs := s.data) (i := 0) h0
    rw [this] at h3
    exact Option.some.inj h3
set_option maxRecDepth 100000 in
set_option maxHeartbeats 4000000 in
theorem Plain_any (s : ByteArray) (w : World) : Calls Tryd.prog 57 #[.string s] w fun e w' => e = .returned (.bool (plainB s)) ∧ Only (fun _ => False) w w' := by
  cases h0 : (s.toList == [33]) with
  | true =>
    have HE : Hid (plainB s = true) := Lib.hid (by unfold plainB freeB barB; rw [h0]; rfl)
    go_enter Tryd.func57, Tryd.ntmps57
    go_wp2_with fail
    go_ret
    exact ⟨by rw [HE.out]; rfl, Only.refl _ _⟩
  | false =>
    cases h1 : (s.toList == [59]) with
    | true =>
      have HE : Hid (plainB s = true) := Lib.hid (by unfold plainB freeB barB; rw [h0, h1]; rfl)
      go_enter Tryd.func57, Tryd.ntmps57
      go_wp2_with fail
      go_ret
      exact ⟨by rw [HE.out]; rfl, Only.refl _ _⟩
    | false =>
      cases h2 : (s.toList == [91, 93]) with
      | true =>
        have HE : Hid (plainB s = true) := Lib.hid (by unfold plainB freeB barB; rw [h0, h1, h2]; rfl)
        go_enter Tryd.func57, Tryd.ntmps57
        go_wp2_with fail
        go_ret
        exact ⟨by rw [HE.out]; rfl, Only.refl _ _⟩
      | false =>
        cases h3 : (s.toList == [123, 125]) with
        | true =>
          have HE : Hid (plainB s = true) := Lib.hid (by unfold plainB freeB barB; rw [h0, h1, h2, h3]; rfl)
          go_enter Tryd.func57, Tryd.ntmps57
          go_wp2_with fail
          go_ret
          exact ⟨by rw [HE.out]; rfl, Only.refl _ _⟩
        | false =>
          cases h4 : (s.toList == []) with
          | true =>
            have HE : Hid (plainB s = false) := Lib.hid (by unfold plainB freeB barB; rw [h0, h1, h2, h3, h4]; rfl)
            go_enter Tryd.func57, Tryd.ntmps57
            go_wp2_with fail
            go_ret
            exact ⟨by rw [HE.out]; rfl, Only.refl _ _⟩
          | false =>
            cases h5 : (s.toList == [46]) with
            | true =>
              have HE : Hid (plainB s = false) := Lib.hid (by unfold plainB freeB barB; rw [h0, h1, h2, h3, h4, h5]; rfl)
              go_enter Tryd.func57, Tryd.ntmps57
              go_wp2_with fail
              go_ret
              exact ⟨by rw [HE.out]; rfl, Only.refl _ _⟩
            | false =>
              obtain ⟨hpos, hhead⟩ := head_of h4
              have HE : Hid (plainB s = if smallB (((s[0]'hpos).toNat : Nat) : Int) = true then allB wordB s else !(Lib.hasPrefix s.data.toList [47, 42]) && allB signB s) := Lib.hid (by unfold plainB freeB barB; rw [h0, h1, h2, h3, h4, h5, hhead]; rfl)
              have HS : Hid (∀ (c : Int) (W : World), Calls Tryd.prog 74 #[.int .i32 c] W fun e w' => e = .returned (.bool (smallB c)) ∧ w' = W) := Lib.hid isSmall_any
              have HW : Hid (∀ W, Calls Tryd.prog 75 #[.string s, .func (.func 76) #[] #[]] W fun e w' => e = .returned (.bool (allB wordB s)) ∧ ∃ pos, w' = W.iter s pos) := Lib.hid (fun W => every_any _ wordB word_hi isInName_any (fun _ _ => rfl) s W)
              have HG : Hid (∀ W, Calls Tryd.prog 75 #[.string s, .func (.func 78) #[] #[]] W fun e w' => e = .returned (.bool (allB signB s)) ∧ ∃ pos, w' = W.iter s pos) := Lib.hid (fun W => every_any _ signB sign_hi isSign_any (fun _ _ => rfl) s W)
              have HP : Hid (∀ W, Calls Tryd.prog 77 #[.string s, .string ⟨#[47, 42]⟩] W fun e w' => e = .returned (.bool (Lib.hasPrefix s.data.toList [47, 42])) ∧ w' = W) := Lib.hid (fun W => Tryd.strings_HasPrefix s ⟨#[47, 42]⟩ W)
              have hlt : (s[0]'hpos).toNat < 256 := UInt8.toNat_lt _
              have hwr : wrap32 (((s[0]'hpos).toNat : Nat) : Int) = (((s[0]'hpos).toNat : Nat) : Int) := by unfold wrap32; omega
              rw [← hwr] at HE
              clear hhead hlt hwr
              cases hs : smallB (wrap32 (((s[0]'hpos).toNat : Nat) : Int)) with
              | true =>
                have HE2 : Hid (plainB s = allB wordB s) := Lib.hid (by rw [HE.out, if_pos hs])
                have HS2 : Hid (∀ W, Calls Tryd.prog 74 #[.int .i32 (wrap32 (((s[0]'hpos).toNat : Nat) : Int))] W fun e w' => e = .returned (.bool true) ∧ w' = W) := Lib.hid (fun W => by rw [← hs]; exact HS.out _ W)
                clear hs HS HE
                go_enter Tryd.func57, Tryd.ntmps57
                go_wp2_with fail
                refine (HS2.out _).mono ?_
                rintro e w1 ⟨rfl, rfl⟩
                go_wp2_with fail
                refine (HW.out _).mono ?_
                rintro e w2 ⟨rfl, pos, rfl⟩
                go_wp2_with fail
                go_ret
                exact ⟨by rw [HE2.out]; rfl, Only.iter _ _ _⟩
              | false =>
                have HS2 : Hid (∀ W, Calls Tryd.prog 74 #[.int .i32 (wrap32 (((s[0]'hpos).toNat : Nat) : Int))] W fun e w' => e = .returned (.bool false) ∧ w' = W) := Lib.hid (fun W => by rw [← hs]; exact HS.out _ W)
                cases hp : Lib.hasPrefix s.data.toList [47, 42] with
                | true =>
                  have HE2 : Hid (plainB s = false) := Lib.hid (by rw [HE.out, if_neg (by rw [hs]; simp), hp]; rfl)
                  rw [hp] at HP
                  clear hs HS HE hp
                  go_enter Tryd.func57, Tryd.ntmps57
                  go_wp2_with fail
                  refine (HS2.out _).mono ?_
                  rintro e w1 ⟨rfl, rfl⟩
                  go_wp2_with fail
                  refine (HP.out _).mono ?_
                  rintro e w1 ⟨rfl, rfl⟩
                  go_wp2_with fail
                  go_ret
                  exact ⟨by rw [HE2.out]; rfl, Only.refl _ _⟩
                | false =>
                  have HE2 : Hid (plainB s = allB signB s) := Lib.hid (by rw [HE.out, if_neg (by rw [hs]; simp), hp]; rfl)
                  rw [hp] at HP
                  clear hs HS HE hp
                  go_enter Tryd.func57, Tryd.ntmps57
                  go_wp2_with fail
                  refine (HS2.out _).mono ?_
                  rintro e w1 ⟨rfl, rfl⟩
                  go_wp2_with fail
                  refine (HP.out _).mono ?_
                  rintro e w1 ⟨rfl, rfl⟩
                  go_wp2_with fail
                  refine (HG.out _).mono ?_
                  rintro e w2 ⟨rfl, pos, rfl⟩
                  go_wp2_with fail
                  go_ret
                  exact ⟨by rw [HE2.out]; rfl, Only.iter _ _ _⟩
end Go.Proofs.YtodgjkdhkohckaaDoor.toks
