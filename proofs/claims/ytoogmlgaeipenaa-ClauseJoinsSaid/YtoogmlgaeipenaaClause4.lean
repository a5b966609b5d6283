/- Clauses: what is built in. -/
import Derived.Test.YtoogmlgaeipenaaClause3
namespace Go.Proofs.Ytoogmlgaeipenaa.terms
set_option maxRecDepth 100000
open Go.RowKit Go.Proofs.Ytoogmlgaeipenaa.own Go.Maps
theorem lit_of {s u : ByteArray} {l : List UInt8} (h : s.toList = l) (hu : u.toList = l) : s = u := ba_ext (h.trans hu.symm)
theorem str_ne {s : ByteArray} {l : List UInt8} (h : ¬ s.toList = l) : (s.toList == l) = false ∧ (l == s.toList) = false := by
  refine ⟨by simpa using h, ?_⟩
  simpa using fun e => h e.symm
def bL0 : List (List UInt8) := [[116, 114, 117, 101], [102, 97, 105, 108], [33], [104, 97, 108, 116], [110, 108]]
def bL1 : List (List UInt8) := [[58, 45], [92, 43], [99, 97, 108, 108], [116, 104, 114, 111, 119], [118, 97, 114], [110, 111, 110, 118, 97, 114], [97, 116, 111, 109], [105, 110, 116, 101, 103, 101, 114], [99, 111, 109, 112, 111, 117, 110, 100], [97, 115, 115, 101, 114, 116, 122], [97, 115, 115, 101, 114, 116, 97], [114, 101, 116, 114, 97, 99, 116], [119, 114, 105, 116, 101]]
def bL2 : List (List UInt8) := [[58, 45], [44], [59], [45, 62], [99, 97, 108, 108], [61], [92, 61], [61, 61], [92, 61, 61], [64, 60], [64, 62], [64, 61, 60], [64, 62, 61], [61, 46, 46], [99, 111, 112, 121, 95, 116, 101, 114, 109], [105, 115], [61, 58, 61], [61, 92, 61], [60], [62], [61, 60], [62, 61], [97, 116, 111, 109, 95, 108, 101, 110, 103, 116, 104]]
def bL3 : List (List UInt8) := [[99, 97, 108, 108], [99, 97, 116, 99, 104], [102, 105, 110, 100, 97, 108, 108], [99, 111, 109, 112, 97, 114, 101], [102, 117, 110, 99, 116, 111, 114], [97, 114, 103]]
def bL4 : List (List UInt8) := [[99, 97, 108, 108]]
/-- Is that built in? -/
def builtB (s : ByteArray) (n : Int) : Bool := if n = 0 then decide (s.toList ∈ bL0) else if n = 1 then decide (s.toList ∈ bL1) else if n = 2 then decide (s.toList ∈ bL2) else if n = 3 then decide (s.toList ∈ bL3) else if n = 4 then decide (s.toList ∈ bL4) else false
theorem in0 {s : ByteArray} (h : s.toList ∈ bL0) : s = ⟨#[116, 114, 117, 101]⟩ ∨ s = ⟨#[102, 97, 105, 108]⟩ ∨ s = ⟨#[33]⟩ ∨ s = ⟨#[104, 97, 108, 116]⟩ ∨ s = ⟨#[110, 108]⟩ := by
  simp only [bL0, List.mem_cons, List.not_mem_nil, or_false] at h
  rcases h with h | h | h | h | h
  · exact (.inl (lit_of h (by kernel_rfl)))
  · exact (.inr (.inl (lit_of h (by kernel_rfl))))
  · exact (.inr (.inr (.inl (lit_of h (by kernel_rfl)))))
  · exact (.inr (.inr (.inr (.inl (lit_of h (by kernel_rfl))))))
  · exact (.inr (.inr (.inr (.inr (lit_of h (by kernel_rfl))))))
theorem out0 {s : ByteArray} (h : s.toList ∉ bL0) : ¬ s.toList = [116, 114, 117, 101] ∧ ¬ s.toList = [102, 97, 105, 108] ∧ ¬ s.toList = [33] ∧ ¬ s.toList = [104, 97, 108, 116] ∧ ¬ s.toList = [110, 108] := by
  simp only [bL0, List.mem_cons, List.not_mem_nil, or_false, not_or] at h
  exact h
theorem in1 {s : ByteArray} (h : s.toList ∈ bL1) : s = ⟨#[58, 45]⟩ ∨ s = ⟨#[92, 43]⟩ ∨ s = ⟨#[99, 97, 108, 108]⟩ ∨ s = ⟨#[116, 104, 114, 111, 119]⟩ ∨ s = ⟨#[118, 97, 114]⟩ ∨ s = ⟨#[110, 111, 110, 118, 97, 114]⟩ ∨ s = ⟨#[97, 116, 111, 109]⟩ ∨ s = ⟨#[105, 110, 116, 101, 103, 101, 114]⟩ ∨ s = ⟨#[99, 111, 109, 112, 111, 117, 110, 100]⟩ ∨ s = ⟨#[97, 115, 115, 101, 114, 116, 122]⟩ ∨ s = ⟨#[97, 115, 115, 101, 114, 116, 97]⟩ ∨ s = ⟨#[114, 101, 116, 114, 97, 99, 116]⟩ ∨ s = ⟨#[119, 114, 105, 116, 101]⟩ := by
  simp only [bL1, List.mem_cons, List.not_mem_nil, or_false] at h
  rcases h with h | h | h | h | h | h | h | h | h | h | h | h | h
  · exact (.inl (lit_of h (by kernel_rfl)))
  · exact (.inr (.inl (lit_of h (by kernel_rfl))))
  · exact (.inr (.inr (.inl (lit_of h (by kernel_rfl)))))
  · exact (.inr (.inr (.inr (.inl (lit_of h (by kernel_rfl))))))
  · exact (.inr (.inr (.inr (.inr (.inl (lit_of h (by kernel_rfl)))))))
  · exact (.inr (.inr (.inr (.inr (.inr (.inl (lit_of h (by kernel_rfl))))))))
  · exact (.inr (.inr (.inr (.inr (.inr (.inr (.inl (lit_of h (by kernel_rfl)))))))))
  · exact (.inr (.inr (.inr (.inr (.inr (.inr (.inr (.inl (lit_of h (by kernel_rfl))))))))))
  · exact (.inr (.inr (.inr (.inr (.inr (.inr (.inr (.inr (.inl (lit_of h (by kernel_rfl)))))))))))
  · exact (.inr (.inr (.inr (.inr (.inr (.inr (.inr (.inr (.inr (.inl (lit_of h (by kernel_rfl))))))))))))
  · exact (.inr (.inr (.inr (.inr (.inr (.inr (.inr (.inr (.inr (.inr (.inl (lit_of h (by kernel_rfl)))))))))))))
  · exact (.inr (.inr (.inr (.inr (.inr (.inr (.inr (.inr (.inr (.inr (.inr (.inl (lit_of h (by kernel_rfl))))))))))))))
  · exact (.inr (.inr (.inr (.inr (.inr (.inr (.inr (.inr (.inr (.inr (.inr (.inr (lit_of h (by kernel_rfl))))))))))))))
theorem out1 {s : ByteArray} (h : s.toList ∉ bL1) : ¬ s.toList = [58, 45] ∧ ¬ s.toList = [92, 43] ∧ ¬ s.toList = [99, 97, 108, 108] ∧ ¬ s.toList = [116, 104, 114, 111, 119] ∧ ¬ s.toList = [118, 97, 114] ∧ ¬ s.toList = [110, 111, 110, 118, 97, 114] ∧ ¬ s.toList = [97, 116, 111, 109] ∧ ¬ s.toList = [105, 110, 116, 101, 103, 101, 114] ∧ ¬ s.toList = [99, 111, 109, 112, 111, 117, 110, 100] ∧ ¬ s.toList = [97, 115, 115, 101, 114, 116, 122] ∧ ¬ s.toList = [97, 115, 115, 101, 114, 116, 97] ∧ ¬ s.toList = [114, 101, 116, 114, 97, 99, 116] ∧ ¬ s.toList = [119, 114, 105, 116, 101] := by
  simp only [bL1, List.mem_cons, List.not_mem_nil, or_false, not_or] at h
  exact h
theorem in2 {s : ByteArray} (h : s.toList ∈ bL2) : s = ⟨#[58, 45]⟩ ∨ s = ⟨#[44]⟩ ∨ s = ⟨#[59]⟩ ∨ s = ⟨#[45, 62]⟩ ∨ s = ⟨#[99, 97, 108, 108]⟩ ∨ s = ⟨#[61]⟩ ∨ s = ⟨#[92, 61]⟩ ∨ s = ⟨#[61, 61]⟩ ∨ s = ⟨#[92, 61, 61]⟩ ∨ s = ⟨#[64, 60]⟩ ∨ s = ⟨#[64, 62]⟩ ∨ s = ⟨#[64, 61, 60]⟩ ∨ s = ⟨#[64, 62, 61]⟩ ∨ s = ⟨#[61, 46, 46]⟩ ∨ s = ⟨#[99, 111, 112, 121, 95, 116, 101, 114, 109]⟩ ∨ s = ⟨#[105, 115]⟩ ∨ s = ⟨#[61, 58, 61]⟩ ∨ s = ⟨#[61, 92, 61]⟩ ∨ s = ⟨#[60]⟩ ∨ s = ⟨#[62]⟩ ∨ s = ⟨#[61, 60]⟩ ∨ s = ⟨#[62, 61]⟩ ∨ s = ⟨#[97, 116, 111, 109, 95, 108, 101, 110, 103, 116, 104]⟩ := by
  simp only [bL2, List.mem_cons, List.not_mem_nil, or_false] at h
  rcases h with h | h | h | h | h | h | h | h | h | h | h | h | h | h | h | h | h | h | h | h | h | h | h
  · exact (.inl (lit_of h (by kernel_rfl)))
  · exact (.inr (.inl (lit_of h (by kernel_rfl))))
  · exact (.inr (.inr (.inl (lit_of h (by kernel_rfl)))))
  · exact (.inr (.inr (.inr (.inl (lit_of h (by kernel_rfl))))))
  · exact (.inr (.inr (.inr (.inr (.inl (lit_of h (by kernel_rfl)))))))
  · exact (.inr (.inr (.inr (.inr (.inr (.inl (lit_of h (by kernel_rfl))))))))
  · exact (.inr (.inr (.inr (.inr (.inr (.inr (.inl (lit_of h (by kernel_rfl)))))))))
  · exact (.inr (.inr (.inr (.inr (.inr (.inr (.inr (.inl (lit_of h (by kernel_rfl))))))))))
  · exact (.inr (.inr (.inr (.inr (.inr (.inr (.inr (.inr (.inl (lit_of h (by kernel_rfl)))))))))))
  · exact (.inr (.inr (.inr (.inr (.inr (.inr (.inr (.inr (.inr (.inl (lit_of h (by kernel_rfl))))))))))))
  · exact (.inr (.inr (.inr (.inr (.inr (.inr (.inr (.inr (.inr (.inr (.inl (lit_of h (by kernel_rfl)))))))))))))
  · exact (.inr (.inr (.inr (.inr (.inr (.inr (.inr (.inr (.inr (.inr (.inr (.inl (lit_of h (by kernel_rfl))))))))))))))
  · exact (.inr (.inr (.inr (.inr (.inr (.inr (.inr (.inr (.inr (.inr (.inr (.inr (.inl (lit_of h (by kernel_rfl)))))))))))))))
  · exact (.inr (.inr (.inr (.inr (.inr (.inr (.inr (.inr (.inr (.inr (.inr (.inr (.inr (.inl (lit_of h (by kernel_rfl))))))))))))))))
  · exact (.inr (.inr (.inr (.inr (.inr (.inr (.inr (.inr (.inr (.inr (.inr (.inr (.inr (.inr (.inl (lit_of h (by kernel_rfl)))))))))))))))))
  · exact (.inr (.inr (.inr (.inr (.inr (.inr (.inr (.inr (.inr (.inr (.inr (.inr (.inr (.inr (.inr (.inl (lit_of h (by kernel_rfl))))))))))))))))))
  · exact (.inr (.inr (.inr (.inr (.inr (.inr (.inr (.inr (.inr (.inr (.inr (.inr (.inr (.inr (.inr (.inr (.inl (lit_of h (by kernel_rfl)))))))))))))))))))
  · exact (.inr (.inr (.inr (.inr (.inr (.inr (.inr (.inr (.inr (.inr (.inr (.inr (.inr (.inr (.inr (.inr (.inr (.inl (lit_of h (by kernel_rfl))))))))))))))))))))
  · exact (.inr (.inr (.inr (.inr (.inr (.inr (.inr (.inr (.inr (.inr (.inr (.inr (.inr (.inr (.inr (.inr (.inr (.inr (.inl (lit_of h (by kernel_rfl)))))))))))))))))))))
  · exact (.inr (.inr (.inr (.inr (.inr (.inr (.inr (.inr (.inr (.inr (.inr (.inr (.inr (.inr (.inr (.inr (.inr (.inr (.inr (.inl (lit_of h (by kernel_rfl))))))))))))))))))))))
  · exact (.inr (.inr (.inr (.inr (.inr (.inr (.inr (.inr (.inr (.inr (.inr (.inr (.inr (.inr (.inr (.inr (.inr (.inr (.inr (.inr (.inl (lit_of h (by kernel_rfl)))))))))))))))))))))))
  · exact (.inr (.inr (.inr (.inr (.inr (.inr (.inr (.inr (.inr (.inr (.inr (.inr (.inr (.inr (.inr (.inr (.inr (.inr (.inr (.inr (.inr (.inl (lit_of h (by kernel_rfl))))))))))))))))))))))))
  · exact (.inr (.inr (.inr (.inr (.inr (.inr (.inr (.inr (.inr (.inr (.inr (.inr (.inr (.inr (.inr (.inr (.inr (.inr (.inr (.inr (.inr (.inr (lit_of h (by kernel_rfl))))))))))))))))))))))))
theorem out2 {s : ByteArray} (h : s.toList ∉ bL2) : ¬ s.toList = [58, 45] ∧ ¬ s.toList = [44] ∧ ¬ s.toList = [59] ∧ ¬ s.toList = [45, 62] ∧ ¬ s.toList = [99, 97, 108, 108] ∧ ¬ s.toList = [61] ∧ ¬ s.toList = [92, 61] ∧ ¬ s.toList = [61, 61] ∧ ¬ s.toList = [92, 61, 61] ∧ ¬ s.toList = [64, 60] ∧ ¬ s.toList = [64, 62] ∧ ¬ s.toList = [64, 61, 60] ∧ ¬ s.toList = [64, 62, 61] ∧ ¬ s.toList = [61, 46, 46] ∧ ¬ s.toList = [99, 111, 112, 121, 95, 116, 101, 114, 109] ∧ ¬ s.toList = [105, 115] ∧ ¬ s.toList = [61, 58, 61] ∧ ¬ s.toList = [61, 92, 61] ∧ ¬ s.toList = [60] ∧ ¬ s.toList = [62] ∧ ¬ s.toList = [61, 60] ∧ ¬ s.toList = [62, 61] ∧ ¬ s.toList = [97, 116, 111, 109, 95, 108, 101, 110, 103, 116, 104] := by
  simp only [bL2, List.mem_cons, List.not_mem_nil, or_false, not_or] at h
  exact h
theorem in3 {s : ByteArray} (h : s.toList ∈ bL3) : s = ⟨#[99, 97, 108, 108]⟩ ∨ s = ⟨#[99, 97, 116, 99, 104]⟩ ∨ s = ⟨#[102, 105, 110, 100, 97, 108, 108]⟩ ∨ s = ⟨#[99, 111, 109, 112, 97, 114, 101]⟩ ∨ s = ⟨#[102, 117, 110, 99, 116, 111, 114]⟩ ∨ s = ⟨#[97, 114, 103]⟩ := by
  simp only [bL3, List.mem_cons, List.not_mem_nil, or_false] at h
  rcases h with h | h | h | h | h | h
  · exact (.inl (lit_of h (by kernel_rfl)))
  · exact (.inr (.inl (lit_of h (by kernel_rfl))))
  · exact (.inr (.inr (.inl (lit_of h (by kernel_rfl)))))
  · exact (.inr (.inr (.inr (.inl (lit_of h (by kernel_rfl))))))
  · exact (.inr (.inr (.inr (.inr (.inl (lit_of h (by kernel_rfl)))))))
  · exact (.inr (.inr (.inr (.inr (.inr (lit_of h (by kernel_rfl)))))))
theorem out3 {s : ByteArray} (h : s.toList ∉ bL3) : ¬ s.toList = [99, 97, 108, 108] ∧ ¬ s.toList = [99, 97, 116, 99, 104] ∧ ¬ s.toList = [102, 105, 110, 100, 97, 108, 108] ∧ ¬ s.toList = [99, 111, 109, 112, 97, 114, 101] ∧ ¬ s.toList = [102, 117, 110, 99, 116, 111, 114] ∧ ¬ s.toList = [97, 114, 103] := by
  simp only [bL3, List.mem_cons, List.not_mem_nil, or_false, not_or] at h
  exact h
theorem in4 {s : ByteArray} (h : s.toList ∈ bL4) : s = ⟨#[99, 97, 108, 108]⟩ := by
  simp only [bL4, List.mem_cons, List.not_mem_nil, or_false] at h
  exact lit_of h (by kernel_rfl)
theorem out4 {s : ByteArray} (h : s.toList ∉ bL4) : ¬ s.toList = [99, 97, 108, 108] := by
  simp only [bL4, List.mem_cons, List.not_mem_nil, or_false, not_or] at h
  exact h
set_option maxHeartbeats 8000000 in
theorem Builtin0 (s : ByteArray) (w : World) : Calls Try.prog 24 #[.string s, .int .i64 0] w fun e w' => e = .returned (.bool (decide (s.toList ∈ bL0))) ∧ w' = w := by
  by_cases h : s.toList ∈ bL0
  · rw [decide_eq_true h]
    rcases in0 h with rfl | rfl | rfl | rfl | rfl
    · clear h
      go_enter Try.func24, Try.ntmps24
      go_wp2_with fail
      go_ret
      exact ⟨rfl, rfl⟩
    · clear h
      go_enter Try.func24, Try.ntmps24
      go_wp2_with fail
      go_ret
      exact ⟨rfl, rfl⟩
    · clear h
      go_enter Try.func24, Try.ntmps24
      go_wp2_with fail
      go_ret
      exact ⟨rfl, rfl⟩
    · clear h
      go_enter Try.func24, Try.ntmps24
      go_wp2_with fail
      go_ret
      exact ⟨rfl, rfl⟩
    · clear h
      go_enter Try.func24, Try.ntmps24
      go_wp2_with fail
      go_ret
      exact ⟨rfl, rfl⟩
  · rw [decide_eq_false h]
    obtain ⟨n0, n1, n2, n3, n4⟩ := out0 h
    obtain ⟨g0a, g0b⟩ := str_ne n0
    obtain ⟨g1a, g1b⟩ := str_ne n1
    obtain ⟨g2a, g2b⟩ := str_ne n2
    obtain ⟨g3a, g3b⟩ := str_ne n3
    obtain ⟨g4a, g4b⟩ := str_ne n4
    clear h n0 n1 n2 n3 n4
    go_enter Try.func24, Try.ntmps24
    go_wp2_with fail
    go_ret
    exact ⟨rfl, rfl⟩
set_option maxHeartbeats 8000000 in
theorem Builtin1 (s : ByteArray) (w : World) : Calls Try.prog 24 #[.string s, .int .i64 1] w fun e w' => e = .returned (.bool (decide (s.toList ∈ bL1))) ∧ w' = w := by
  by_cases h : s.toList ∈ bL1
  · rw [decide_eq_true h]
    rcases in1 h with rfl | rfl | rfl | rfl | rfl | rfl | rfl | rfl | rfl | rfl | rfl | rfl | rfl
    · clear h
      go_enter Try.func24, Try.ntmps24
      go_wp2_with fail
      go_ret
      exact ⟨rfl, rfl⟩
    · clear h
      go_enter Try.func24, Try.ntmps24
      go_wp2_with fail
      go_ret
      exact ⟨rfl, rfl⟩
    · clear h
      go_enter Try.func24, Try.ntmps24
      go_wp2_with fail
      go_ret
      exact ⟨rfl, rfl⟩
    · clear h
      go_enter Try.func24, Try.ntmps24
      go_wp2_with fail
      go_ret
      exact ⟨rfl, rfl⟩
    · clear h
      go_enter Try.func24, Try.ntmps24
      go_wp2_with fail
      go_ret
      exact ⟨rfl, rfl⟩
    · clear h
      go_enter Try.func24, Try.ntmps24
      go_wp2_with fail
      go_ret
      exact ⟨rfl, rfl⟩
    · clear h
      go_enter Try.func24, Try.ntmps24
      go_wp2_with fail
      go_ret
      exact ⟨rfl, rfl⟩
    · clear h
      go_enter Try.func24, Try.ntmps24
      go_wp2_with fail
      go_ret
      exact ⟨rfl, rfl⟩
    · clear h
      go_enter Try.func24, Try.ntmps24
      go_wp2_with fail
      go_ret
      exact ⟨rfl, rfl⟩
    · clear h
      go_enter Try.func24, Try.ntmps24
      go_wp2_with fail
      go_ret
      exact ⟨rfl, rfl⟩
    · clear h
      go_enter Try.func24, Try.ntmps24
      go_wp2_with fail
      go_ret
      exact ⟨rfl, rfl⟩
    · clear h
      go_enter Try.func24, Try.ntmps24
      go_wp2_with fail
      go_ret
      exact ⟨rfl, rfl⟩
    · clear h
      go_enter Try.func24, Try.ntmps24
      go_wp2_with fail
      go_ret
      exact ⟨rfl, rfl⟩
  · rw [decide_eq_false h]
    obtain ⟨n0, n1, n2, n3, n4, n5, n6, n7, n8, n9, n10, n11, n12⟩ := out1 h
    obtain ⟨g0a, g0b⟩ := str_ne n0
    obtain ⟨g1a, g1b⟩ := str_ne n1
    obtain ⟨g2a, g2b⟩ := str_ne n2
    obtain ⟨g3a, g3b⟩ := str_ne n3
    obtain ⟨g4a, g4b⟩ := str_ne n4
    obtain ⟨g5a, g5b⟩ := str_ne n5
    obtain ⟨g6a, g6b⟩ := str_ne n6
    obtain ⟨g7a, g7b⟩ := str_ne n7
    obtain ⟨g8a, g8b⟩ := str_ne n8
    obtain ⟨g9a, g9b⟩ := str_ne n9
    obtain ⟨g10a, g10b⟩ := str_ne n10
    obtain ⟨g11a, g11b⟩ := str_ne n11
    obtain ⟨g12a, g12b⟩ := str_ne n12
    clear h n0 n1 n2 n3 n4 n5 n6 n7 n8 n9 n10 n11 n12
    go_enter Try.func24, Try.ntmps24
    go_wp2_with fail
    go_ret
    exact ⟨rfl, rfl⟩
set_option maxHeartbeats 8000000 in
theorem Builtin2 (s : ByteArray) (w : World) : Calls Try.prog 24 #[.string s, .int .i64 2] w fun e w' => e = .returned (.bool (decide (s.toList ∈ bL2))) ∧ w' = w := by
  by_cases h : s.toList ∈ bL2
  · rw [decide_eq_true h]
    rcases in2 h with rfl | rfl | rfl | rfl | rfl | rfl | rfl | rfl | rfl | rfl | rfl | rfl | rfl | rfl | rfl | rfl | rfl | rfl | rfl | rfl | rfl | rfl | rfl
    · clear h
      go_enter Try.func24, Try.ntmps24
      go_wp2_with fail
      go_ret
      exact ⟨rfl, rfl⟩
    · clear h
      go_enter Try.func24, Try.ntmps24
      go_wp2_with fail
      go_ret
      exact ⟨rfl, rfl⟩
    · clear h
      go_enter Try.func24, Try.ntmps24
      go_wp2_with fail
      go_ret
      exact ⟨rfl, rfl⟩
    · clear h
      go_enter Try.func24, Try.ntmps24
      go_wp2_with fail
      go_ret
      exact ⟨rfl, rfl⟩
    · clear h
      go_enter Try.func24, Try.ntmps24
      go_wp2_with fail
      go_ret
      exact ⟨rfl, rfl⟩
    · clear h
      go_enter Try.func24, Try.ntmps24
      go_wp2_with fail
      go_ret
      exact ⟨rfl, rfl⟩
    · clear h
      go_enter Try.func24, Try.ntmps24
      go_wp2_with fail
      go_ret
      exact ⟨rfl, rfl⟩
    · clear h
      go_enter Try.func24, Try.ntmps24
      go_wp2_with fail
      go_ret
      exact ⟨rfl, rfl⟩
    · clear h
      go_enter Try.func24, Try.ntmps24
      go_wp2_with fail
      go_ret
      exact ⟨rfl, rfl⟩
    · clear h
      go_enter Try.func24, Try.ntmps24
      go_wp2_with fail
      go_ret
      exact ⟨rfl, rfl⟩
    · clear h
      go_enter Try.func24, Try.ntmps24
      go_wp2_with fail
      go_ret
      exact ⟨rfl, rfl⟩
    · clear h
      go_enter Try.func24, Try.ntmps24
      go_wp2_with fail
      go_ret
      exact ⟨rfl, rfl⟩
    · clear h
      go_enter Try.func24, Try.ntmps24
      go_wp2_with fail
      go_ret
      exact ⟨rfl, rfl⟩
    · clear h
      go_enter Try.func24, Try.ntmps24
      go_wp2_with fail
      go_ret
      exact ⟨rfl, rfl⟩
    · clear h
      go_enter Try.func24, Try.ntmps24
      go_wp2_with fail
      go_ret
      exact ⟨rfl, rfl⟩
    · clear h
      go_enter Try.func24, Try.ntmps24
      go_wp2_with fail
      go_ret
      exact ⟨rfl, rfl⟩
    · clear h
      go_enter Try.func24, Try.ntmps24
      go_wp2_with fail
      go_ret
      exact ⟨rfl, rfl⟩
    · clear h
      go_enter Try.func24, Try.ntmps24
      go_wp2_with fail
      go_ret
      exact ⟨rfl, rfl⟩
    · clear h
      go_enter Try.func24, Try.ntmps24
      go_wp2_with fail
      go_ret
      exact ⟨rfl, rfl⟩
    · clear h
      go_enter Try.func24, Try.ntmps24
      go_wp2_with fail
      go_ret
      exact ⟨rfl, rfl⟩
    · clear h
      go_enter Try.func24, Try.ntmps24
      go_wp2_with fail
      go_ret
      exact ⟨rfl, rfl⟩
    · clear h
      go_enter Try.func24, Try.ntmps24
      go_wp2_with fail
      go_ret
      exact ⟨rfl, rfl⟩
    · clear h
      go_enter Try.func24, Try.ntmps24
      go_wp2_with fail
      go_ret
      exact ⟨rfl, rfl⟩
  · rw [decide_eq_false h]
    obtain ⟨n0, n1, n2, n3, n4, n5, n6, n7, n8, n9, n10, n11, n12, n13, n14, n15, n16, n17, n18, n19, n20, n21, n22⟩ := out2 h
    obtain ⟨g0a, g0b⟩ := str_ne n0
    obtain ⟨g1a, g1b⟩ := str_ne n1
    obtain ⟨g2a, g2b⟩ := str_ne n2
    obtain ⟨g3a, g3b⟩ := str_ne n3
    obtain ⟨g4a, g4b⟩ := str_ne n4
    obtain ⟨g5a, g5b⟩ := str_ne n5
    obtain ⟨g6a, g6b⟩ := str_ne n6
    obtain ⟨g7a, g7b⟩ := str_ne n7
    obtain ⟨g8a, g8b⟩ := str_ne n8
    obtain ⟨g9a, g9b⟩ := str_ne n9
    obtain ⟨g10a, g10b⟩ := str_ne n10
    obtain ⟨g11a, g11b⟩ := str_ne n11
    obtain ⟨g12a, g12b⟩ := str_ne n12
    obtain ⟨g13a, g13b⟩ := str_ne n13
    obtain ⟨g14a, g14b⟩ := str_ne n14
    obtain ⟨g15a, g15b⟩ := str_ne n15
    obtain ⟨g16a, g16b⟩ := str_ne n16
    obtain ⟨g17a, g17b⟩ := str_ne n17
    obtain ⟨g18a, g18b⟩ := str_ne n18
    obtain ⟨g19a, g19b⟩ := str_ne n19
    obtain ⟨g20a, g20b⟩ := str_ne n20
    obtain ⟨g21a, g21b⟩ := str_ne n21
    obtain ⟨g22a, g22b⟩ := str_ne n22
    clear h n0 n1 n2 n3 n4 n5 n6 n7 n8 n9 n10 n11 n12 n13 n14 n15 n16 n17 n18 n19 n20 n21 n22
    go_enter Try.func24, Try.ntmps24
    go_wp2_with fail
    go_ret
    exact ⟨rfl, rfl⟩
set_option maxHeartbeats 8000000 in
theorem Builtin3 (s : ByteArray) (w : World) : Calls Try.prog 24 #[.string s, .int .i64 3] w fun e w' => e = .returned (.bool (decide (s.toList ∈ bL3))) ∧ w' = w := by
  by_cases h : s.toList ∈ bL3
  · rw [decide_eq_true h]
    rcases in3 h with rfl | rfl | rfl | rfl | rfl | rfl
    · clear h
      go_enter Try.func24, Try.ntmps24
      go_wp2_with fail
      go_ret
      exact ⟨rfl, rfl⟩
    · clear h
      go_enter Try.func24, Try.ntmps24
      go_wp2_with fail
      go_ret
      exact ⟨rfl, rfl⟩
    · clear h
      go_enter Try.func24, Try.ntmps24
      go_wp2_with fail
      go_ret
      exact ⟨rfl, rfl⟩
    · clear h
      go_enter Try.func24, Try.ntmps24
      go_wp2_with fail
      go_ret
      exact ⟨rfl, rfl⟩
    · clear h
      go_enter Try.func24, Try.ntmps24
      go_wp2_with fail
      go_ret
      exact ⟨rfl, rfl⟩
    · clear h
      go_enter Try.func24, Try.ntmps24
      go_wp2_with fail
      go_ret
      exact ⟨rfl, rfl⟩
  · rw [decide_eq_false h]
    obtain ⟨n0, n1, n2, n3, n4, n5⟩ := out3 h
    obtain ⟨g0a, g0b⟩ := str_ne n0
    obtain ⟨g1a, g1b⟩ := str_ne n1
    obtain ⟨g2a, g2b⟩ := str_ne n2
    obtain ⟨g3a, g3b⟩ := str_ne n3
    obtain ⟨g4a, g4b⟩ := str_ne n4
    obtain ⟨g5a, g5b⟩ := str_ne n5
    clear h n0 n1 n2 n3 n4 n5
    go_enter Try.func24, Try.ntmps24
    go_wp2_with fail
    go_ret
    exact ⟨rfl, rfl⟩
set_option maxHeartbeats 8000000 in
theorem Builtin4 (s : ByteArray) (w : World) : Calls Try.prog 24 #[.string s, .int .i64 4] w fun e w' => e = .returned (.bool (decide (s.toList ∈ bL4))) ∧ w' = w := by
  by_cases h : s.toList ∈ bL4
  · rw [decide_eq_true h]
    rcases in4 h with rfl
    · clear h
      go_enter Try.func24, Try.ntmps24
      go_wp2_with fail
      go_ret
      exact ⟨rfl, rfl⟩
  · rw [decide_eq_false h]
    have n0 := out4 h
    obtain ⟨g0a, g0b⟩ := str_ne n0
    clear h n0
    go_enter Try.func24, Try.ntmps24
    go_wp2_with fail
    go_ret
    exact ⟨rfl, rfl⟩
set_option maxHeartbeats 4000000 in
theorem Builtin_any (s : ByteArray) (n : Int) (w : World) : Calls Try.prog 24 #[.string s, .int .i64 n] w fun e w' => e = .returned (.bool (builtB s n)) ∧ w' = w := by
  by_cases h0 : n = 0
  · subst h0
    exact Builtin0 s w
  by_cases h1 : n = 1
  · subst h1
    exact Builtin1 s w
  by_cases h2 : n = 2
  · subst h2
    exact Builtin2 s w
  by_cases h3 : n = 3
  · subst h3
    exact Builtin3 s w
  by_cases h4 : n = 4
  · subst h4
    exact Builtin4 s w
  have e0 : (n == 0) = false := by simpa using h0
  have e1 : (n == 1) = false := by simpa using h1
  have e2 : (n == 2) = false := by simpa using h2
  have e3 : (n == 3) = false := by simpa using h3
  have e4 : (n == 4) = false := by simpa using h4
  have HE : builtB s n = false := by unfold builtB; rw [if_neg h0, if_neg h1, if_neg h2, if_neg h3, if_neg h4]
  rw [HE]
  clear HE h0 h1 h2 h3 h4
  go_enter Try.func24, Try.ntmps24
  go_wp2_with fail
  go_ret
  exact ⟨rfl, rfl⟩
end Go.Proofs.Ytoogmlgaeipenaa.terms
