/- AtomTells. -/
import Derived.Test.YtfhijcdibigblaaDoorAtom10
namespace Go.Proofs.YtfhijcdibigblaaDoor.atoms
open Go.RowKit Go.Proofs.YtfhijcdibigblaaDoor.own Go.Maps

theorem used_all {sl : List ASlot} (h : AllUsed sl sl.length) : used sl = sl.length := by
  unfold used
  generalize 0 = i
  induction sl generalizing i with
  | nil => rfl
  | cons x r ih =>
    unfold prs
    rw [if_pos (h 0 x (by simp) rfl), List.length_cons, List.length_cons, ih]
    intro j y hj hy
    exact h (j + 1) y (by simp; omega) (by simpa using hy)
/-- No slot is free, and so many names were made. -/
structure Dense (made : Int) (sl : List ASlot) : Prop where
  all : AllUsed sl sl.length
  len : (sl.length : Int) = 15 + made
theorem Dense.first : Dense 0 (firstS 15) := ⟨fun j x _ hx => by rw [(firstS_some hx).2], by simp [firstS_len]⟩
theorem Dense.lowest {made : Int} {sl : List ASlot} (h : Dense made sl) : lowestF sl = sl.length :=
  (lowestF_is sl).eq ⟨Nat.le_refl _, h.all, fun e => absurd e (Nat.lt_irrefl _)⟩
/-- What a first Intern of a name leaves. -/
structure Told (made : Int) (n : ByteArray) (r : IRes) : Prop where
  err : r.err = 0
  dense : Dense r.made r.sl
  id : ∃ j : Nat, r.id = (j : Int) ∧ findF r.sl n = some j
  lo : made ≤ r.made
  hi : r.made ≤ made + 1
theorem findF_snoc {sl : List ASlot} {n : ByteArray} (h : findF sl n = none) : findF (sl ++ [⟨n, true, false⟩]) n = some sl.length := by
  unfold findF at h ⊢
  have hx : isN n ⟨n, true, false⟩ = true := isN_iff.2 ⟨rfl, rfl⟩
  rw [List.findIdx?_append, h]
  simp [hx]
theorem told_of {lim made : Int} {sl : List ASlot} {n : ByteArray} (h : Dense made sl) (hl : 15 + made < lim) (hn : n.size ≤ 64) : Told made n (internF lim made sl n) := by
  have hm := internF_made lim made sl n
  revert hm
  unfold internF
  rw [if_neg (by omega)]
  cases hf : findF sl n with
  | some j => intro hm; exact ⟨rfl, h, ⟨j, rfl, hf⟩, hm.1, hm.2⟩
  | none =>
    have hlo := h.lowest
    have hlen := h.len
    dsimp only
    rw [if_pos (by rw [hlo]; omega), hlo]
    intro hm
    have hp : putS sl sl.length n = sl ++ [⟨n, true, false⟩] := by simp [putS]
    refine ⟨rfl, ⟨?_, ?_⟩, ⟨sl.length, rfl, ?_⟩, hm.1, hm.2⟩
    · intro j x hj hx
      dsimp only at hj hx
      rw [hp] at hj hx
      rw [List.getElem?_append] at hx
      split at hx
      · rename_i hlt; exact h.all j x hlt hx
      · rcases hq : j - sl.length with _ | q
        · rw [hq] at hx; simp at hx; subst hx; rfl
        · rw [hq] at hx; simp at hx
    · dsimp only
      rw [hp]
      simp
      omega
    · dsimp only
      rw [hp]
      exact findF_snoc hf
theorem Told.name {made : Int} {n : ByteArray} {r : IRes} (h : Told made n r) : nameS r.sl r.id = n ∧ errS r.sl r.id = 0 := by
  obtain ⟨j, hj, hf⟩ := h.id
  obtain ⟨x, hx, hu, hn⟩ := findF_some hf
  have hs : slotAt r.sl r.id = some x := by
    unfold slotAt
    rw [hj, if_pos (by omega), Int.toNat_natCast, hx, Option.filter_some, if_pos (by simpa using hu)]
  unfold nameS errS
  rw [hs]
  exact ⟨hn, rfl⟩
theorem Told.find {made : Int} {n : ByteArray} {r : IRes} (h : Told made n r) : findI r.sl n = r.id ∧ findB r.sl n = true := by
  obtain ⟨j, hj, hf⟩ := h.id
  unfold findI findB
  rw [hf, hj]
  exact ⟨rfl, rfl⟩
theorem Told.again {lim made : Int} {n : ByteArray} {r : IRes} (h : Told made n r) (hn : n.size ≤ 64) : internF lim r.made r.sl n = r := by
  obtain ⟨j, hj, hf⟩ := h.id
  have he := h.err
  unfold internF
  rw [if_neg (by omega), hf]
  cases r
  simp_all

/-- The table behind k names. -/
def TellR (b : Nat) (k : Nat) (w0 w : World) : Prop := ∃ S made sl, St S b 16384 made sl w0 w ∧ Dense made sl ∧ 0 ≤ made ∧ made ≤ (k : Int)

set_option maxRecDepth 100000 in
set_option maxHeartbeats 4000000 in
theorem tells_far (ao : Option Addr) (cap : Nat) (ns : List ByteArray) (w : World) (hm : ns.length ≤ maxLen) (hL : Listed w) (hlen : 100 < ns.length) :
    Calls Tryd.prog 7 #[.slice ao ns.length cap] w fun e w' => e = .returned (.bool true) ∧ Below w.heap.size w w' := by
  unfold maxLen at hm
  have HL := Lib.hid hL
  have hnot := run_not
  clear hL
  go_enter Tryd.func7, Tryd.ntmps7
  go_wp2_with fail
  refine (new_yes 16384 _ (by omega) (by omega)).mono ?_
  rintro e w1 ⟨rfl, t1⟩
  have T1 := Lib.hid (St.new HL.out t1 (by omega) (by omega))
  clear t1
  go_wp2_with fail
  refine (lives_any _ T1.out.listed).mono ?_
  rintro e w2 ⟨rfl, b2⟩
  have T2 := Lib.hid (T1.out.still (Only.of_below b2 (fun _ => False)) (fun _ _ e => e) (fun e => e) (b2.mono T1.out.below.size))
  clear b2
  go_wp2_with fail
  refine (lives_any _ T2.out.listed).mono ?_
  rintro e w3 ⟨rfl, b3⟩
  have B3 := Lib.hid (T2.out.below.trans (b3.mono T2.out.below.size))
  clear b3
  go_wp2_with fail
  go_ret
  exact ⟨rfl, B3.out⟩

set_option maxRecDepth 100000 in
set_option maxHeartbeats 4000000 in
theorem tells_near (ao : Option Addr) (cap : Nat) (ns : List ByteArray) (w : World) (hA : ArgNames w ao ns) (hL : Listed w) (hlen : ns.length ≤ 100) :
    Calls Tryd.prog 7 #[.slice ao ns.length cap] w fun e w' => e = .returned (.bool true) ∧ Below w.heap.size w w' := by
  have HL := Lib.hid hL
  have HA := Lib.hid hA
  have hnot := run_not
  clear hL hA
  go_enter Tryd.func7, Tryd.ntmps7
  go_wp2_with fail
  refine (new_yes 16384 _ (by omega) (by omega)).mono ?_
  rintro e w1 ⟨rfl, t1⟩
  have T1 := Lib.hid (St.new HL.out t1 (by omega) (by omega))
  clear t1
  go_wp2_with fail
  refine (lives_any _ T1.out.listed).mono ?_
  rintro e w2 ⟨rfl, b2⟩
  have T2 : Hid (TellR w.heap.size 0 w w2) := Lib.hid ⟨_, 0, _, T1.out.still (Only.of_below b2 (fun _ => False)) (fun _ _ e => e) (fun e => e) (b2.mono T1.out.below.size), Dense.first, by omega, by omega⟩
  clear b2
  go_wp2_with fail
  go_loopw [5] (fun i wr => ∃ k : Nat, i = .int .i64 k ∧ k ≤ ns.length ∧ Hid (TellR w.heap.size k w wr)) (fun i _ => ns.length - (intOf i).toNat)
  case atStart => exact ⟨0, rfl, by omega, T2⟩
  case round =>
    obtain ⟨k, rfl, hk, hR⟩ := hrel
    obtain ⟨S, made, sl, hT, hD, hm0, hm1⟩ := hR.out
    have HT := Lib.hid hT
    have HD := Lib.hid hD
    clear hT hD hR T2
    by_cases hlt : k < ns.length
    · obtain ⟨b, off, n, hn, rfl, hnm, hcell⟩ := HA.out.cell k hlt
      unfold maxLen at hnm
      have HC := Lib.hid hcell
      have c0 := HC.out _ HT.out.below
      clear hn hcell
      by_cases hn64 : n.size ≤ 64
      · have hto := told_of (lim := 16384) HD.out (by omega) hn64
        generalize hr : internF 16384 made sl n = r at hto
        have HR := Lib.hid hr
        have HTO := Lib.hid hto
        clear hr hto
        go_wp2_with fail
        refine (st_intern n HT.out hm0 (by omega) r HR.out).mono ?_
        rintro e w4 ⟨rfl, t4, _⟩
        have T4 := Lib.hid t4
        clear t4
        rw [HTO.out.err]
        have c0 := HC.out _ T4.out.below
        go_wp2_with fail
        refine (st_made T4.out).mono ?_
        rintro e w5 ⟨rfl, t5, _⟩
        have T5 := Lib.hid t5
        clear t5
        have c0 := HC.out _ T5.out.below
        go_wp2_with fail
        refine (st_name r.id T5.out).mono ?_
        rintro e w6 ⟨rfl, t6, _⟩
        rw [HTO.out.name.1, HTO.out.name.2]
        have T6 := Lib.hid t6
        clear t6
        have c0 := HC.out _ T6.out.below
        go_wp2_with fail
        refine (st_find n T6.out (by unfold maxLen; omega)).mono ?_
        rintro e w7 ⟨rfl, t7, _⟩
        rw [HTO.out.find.1, HTO.out.find.2]
        have T7 := Lib.hid t7
        clear t7
        have c0 := HC.out _ T7.out.below
        go_wp2_with fail
        refine (st_intern n T7.out (by have := HTO.out.lo; omega) (by have := HTO.out.hi; omega) r (HTO.out.again hn64)).mono ?_
        rintro e w8 ⟨rfl, t8, _⟩
        rw [HTO.out.err]
        have T8 := Lib.hid t8
        clear t8
        have c0 := HC.out _ T8.out.below
        go_wp2_with fail
        refine (st_made T8.out).mono ?_
        rintro e w9 ⟨rfl, t9, _⟩
        have T9 : Hid (TellR w.heap.size (k + 1) w w9) := Lib.hid ⟨_, _, _, t9, HTO.out.dense, by have := HTO.out.lo; omega, by have := HTO.out.hi; omega⟩
        clear t9
        go_wp2_with fail
        go_roundw
        case rel => exact ⟨k + 1, by go_num, by omega, T9⟩
        case measure => simp [intOf]; omega
      · have hr : internF 16384 made sl n = ⟨0, 3, sl, made⟩ := by unfold internF; rw [if_pos (by omega)]
        have HR := Lib.hid hr
        have hgt : 64 < (n.size : Int) := by omega
        clear hr hn64
        go_wp2_with fail
        refine (st_intern n HT.out hm0 (by omega) _ HR.out).mono ?_
        rintro e w4 ⟨rfl, t4, _⟩
        have T4 : Hid (TellR w.heap.size (k + 1) w w4) := Lib.hid ⟨_, _, _, t4, HD.out, hm0, by show made ≤ ((k + 1 : Nat) : Int); omega⟩
        have c0 := HC.out _ t4.below
        clear t4
        go_wp2_with fail
        go_roundw
        case rel => exact ⟨k + 1, by go_num, by omega, T4⟩
        case measure => simp [intOf]; omega
    · have hu : (used sl : Int) = 15 + made := by rw [used_all HD.out.all]; exact HD.out.len
      have hl := HD.out.len
      have HU := Lib.hid hu
      have HLN := Lib.hid hl
      clear hu hl
      go_wp2_with fail
      refine (st_len HT.out).mono ?_
      rintro e w4 ⟨rfl, t4, _⟩
      rw [HU.out]
      have T4 := Lib.hid t4
      clear t4
      go_wp2_with fail
      refine (st_made T4.out).mono ?_
      rintro e w5 ⟨rfl, t5, _⟩
      have T5 := Lib.hid t5
      clear t5
      go_wp2_with fail
      refine (st_slots T5.out).mono ?_
      rintro e w6 ⟨rfl, t6, _⟩
      rw [HLN.out]
      have T6 := Lib.hid t6
      clear t6
      go_wp2_with fail
      refine (st_len T6.out).mono ?_
      rintro e w7 ⟨rfl, t7, _⟩
      rw [HU.out]
      have T7 := Lib.hid t7
      clear t7
      go_wp2_with fail
      go_ret
      exact ⟨rfl, T7.out.below⟩
theorem law_tells (ao : Option Addr) (cap : Nat) (ns : List ByteArray) (w : World) (hA : ArgNames w ao ns) (hm : ns.length ≤ maxLen) (hL : Listed w) :
    Calls Tryd.prog 7 #[.slice ao ns.length cap] w fun e w' => e = .returned (.bool true) ∧ Below w.heap.size w w' := by
  by_cases h : ns.length ≤ 100
  · exact tells_near ao cap ns w hA hL h
  · exact tells_far ao cap ns w hm hL (by omega)
end Go.Proofs.YtfhijcdibigblaaDoor.atoms
