/- Arithmetic: which terms of integers may be, and what they come to. -/
import Derived.Test.YtleofkmfeooaaaaArith19
namespace Go.Proofs.Ytleofkmfeooaaaa.terms
set_option maxRecDepth 100000
open Go.RowKit Go.Proofs.Ytleofkmfeooaaaa.own Go.Maps
theorem int_part {a : Int} (h : Rng a) : (sInt a).part = true := by
  obtain ⟨h1, h2⟩ := h
  unfold T.part
  rw [if_neg (by show ¬ (2 : Int) = 1; omega), if_pos (show (sInt a).k = 2 from rfl), if_pos (show -9007199254740991 ≤ (sInt a).n from h1), if_pos (show (sInt a).n ≤ 9007199254740991 from h2), if_pos (show (sInt a).s.toList = [] by kernel_rfl)]
  rfl
theorem int_right {a : Int} (h : Rng a) : (sInt a).right = true := by
  rw [T.right_eq, int_part h]
  rfl
theorem depth_int (a : Int) : (sInt a).depth = 1 := by simp [sInt, T.depth, depths]
theorem int_Ok {a : Int} (h : Rng a) : (sInt a).Ok := ⟨int_right h, by rw [depth_int]; omega, by rw [size_int]; omega⟩
theorem int_chk (a : Int) : rcheckF (sInt a) = 0 ↔ Rng a := by
  rw [rcheck_iff]
  exact ⟨fun h => int_rng h.right, int_Ok⟩
theorem comp_part {s : ByteArray} {l : List T} (hs : s.size ≤ 64) (h1 : 1 ≤ l.length) (h2 : l.length ≤ 16) : (T.mk 4 0 s l).part = true := by
  unfold T.part
  rw [if_neg (by show ¬ (4 : Int) = 1; omega), if_neg (by show ¬ (4 : Int) = 2; omega), if_neg (by show ¬ (4 : Int) = 3; omega), if_pos (show (T.mk 4 0 s l).k = 4 from rfl), if_pos (show (T.mk 4 0 s l).n = 0 from rfl), if_pos (show ((T.mk 4 0 s l).s.size : Int) ≤ 64 by show (s.size : Int) ≤ 64; omega), if_pos (show (1 : Int) ≤ ((T.mk 4 0 s l).l.length : Int) by show (1 : Int) ≤ (l.length : Int); omega)]
  exact decide_eq_true (show (l.length : Int) ≤ 16 by omega)
theorem comp_Ok {s : ByteArray} {l : List T} (hs : s.size ≤ 64) (h1 : 1 ≤ l.length) (h2 : l.length ≤ 16) (hr : rights l = true) (hd : depths l ≤ 199) (hz : sizes l ≤ 4095) : (T.mk 4 0 s l).Ok := by
  refine ⟨?_, by simp only [T.depth]; omega, by simp only [T.size]; omega⟩
  rw [T.right_eq, comp_part hs h1 h2]
  show (true && rights l) = true
  simpa using hr
theorem two_Ok {s : ByteArray} {a b : Int} (hs : s.size ≤ 64) (ha : Rng a) (hb : Rng b) : (T.mk 4 0 s [sInt a, sInt b]).Ok :=
  comp_Ok hs (by simp) (by simp) (by simp [rights, int_right ha, int_right hb]) (by simp [depths, depth_int]) (by simp [sizes, size_int])
theorem reck_int (a : Int) : reckF (sInt a) = .num a := by rw [sInt, reckF_mk, if_pos rfl]
theorem eval_Ok {t : T} (h : t.Ok) : evalR t = reckF t := by unfold evalR; rw [if_pos (rcheck_iff.2 h)]
theorem eval_two {s : ByteArray} {a b : Int} (hs : s.size ≤ 64) (ho : opB s 2 = true) (ha : Rng a) (hb : Rng b) : evalR (.mk 4 0 s [sInt a, sInt b]) = finF s 2 a b := by
  rw [eval_Ok (two_Ok hs ha hb), reckF_two (by omega) (by omega) ho, reck_int]
  simp only [reck_int]
theorem fin_div {s : ByteArray} {a b v : Int} (hv : twoF s a b = v) (hb : b ≠ 0) (hr : Rng v) : finF s 2 a b = .num v := by
  rw [fin_of s a b v hv (.inr hb), outF_in hr]
theorem mod_rng {a b : Int} (ha : Rng a) (hb : Rng b) (hz : b ≠ 0) : Rng (modF a b) := by
  have h := tmod_rng (b := b) ha
  obtain ⟨h1, h2⟩ := h
  obtain ⟨h3, h4⟩ := hb
  have hl : (a.tmod b).natAbs < b.natAbs := by
    rw [Int.natAbs_tmod]
    exact Nat.mod_lt _ (by omega)
  unfold modF Rng
  split
  · next h =>
    obtain ⟨_, h⟩ := h
    constructor <;> omega
  · exact ⟨h1, h2⟩
/-- The laws of a quotient and what is left of it. -/
theorem parts_laws {a b : Int} (ha : Rng a) (hz : b ≠ 0) : a.tdiv b * b + a.tmod b = a ∧ (modF a b = 0 ∨ (modF a b < 0 ↔ b < 0)) ∧ (modF a b - a.tmod b = 0 ∨ modF a b - a.tmod b = b) ∧ (a.tmod b = 0 ∨ (a.tmod b < 0 ↔ a < 0)) := by
  have hl : (a.tmod b).natAbs < b.natAbs := by
    rw [Int.natAbs_tmod]
    exact Nat.mod_lt _ (by omega)
  have h1 : a.tdiv b * b + a.tmod b = a := by
    have := Int.mul_tdiv_add_tmod a b
    rw [Int.mul_comm] at this
    exact this
  have h4 : a.tmod b = 0 ∨ (a.tmod b < 0 ↔ a < 0) := by
    by_cases ha0 : 0 ≤ a
    · have := Int.tmod_nonneg b ha0
      right; omega
    · have h := Int.tmod_nonneg b (show 0 ≤ -a by omega)
      rw [Int.neg_tmod] at h
      omega
  refine ⟨h1, ?_, ?_, h4⟩
  · unfold modF
    split
    · next h =>
      obtain ⟨h5, h6⟩ := h
      right; omega
    · next h =>
      by_cases h5 : a.tmod b = 0
      · exact .inl h5
      · right
        exact Classical.byContradiction (fun h6 => h ⟨h5, h6⟩)
  · unfold modF
    split
    · right; omega
    · left; omega
end Go.Proofs.Ytleofkmfeooaaaa.terms
