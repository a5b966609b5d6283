/- Arithmetic: relations, the program's and the reference's; Compare. -/
import Derived.Test.YtleofkmfeooaaaaArith13
namespace Go.Proofs.Ytleofkmfeooaaaa.terms
set_option maxRecDepth 100000
open Go.RowKit Go.Proofs.Ytleofkmfeooaaaa.own Go.Maps
def relK (s : ByteArray) : Bool := decide (s.toList = [61, 58, 61]) || decide (s.toList = [61, 92, 61]) || decide (s.toList = [60]) || decide (s.toList = [62]) || decide (s.toList = [61, 60]) || decide (s.toList = [62, 61])
def holdsF (s : ByteArray) (a b : Int) : Bool := if s.toList = [61, 58, 61] then (a == b) else if s.toList = [61, 92, 61] then (a != b) else if s.toList = [60] then (decide (a < b)) else if s.toList = [62] then (decide (b < a)) else if s.toList = [61, 60] then (decide (a ≤ b)) else if s.toList = [62, 61] then (decide (b ≤ a)) else false
theorem rel_cases {s : ByteArray} (h : relK s = true) : s = ⟨#[61, 58, 61]⟩ ∨ s = ⟨#[61, 92, 61]⟩ ∨ s = ⟨#[60]⟩ ∨ s = ⟨#[62]⟩ ∨ s = ⟨#[61, 60]⟩ ∨ s = ⟨#[62, 61]⟩ := by
  unfold relK at h
  simp only [Bool.or_eq_true, decide_eq_true_eq] at h
  rcases h with ((((h | h) | h) | h) | h) | h
  · exact (.inl (lit_of h (by kernel_rfl)))
  · exact (.inr (.inl (lit_of h (by kernel_rfl))))
  · exact (.inr (.inr (.inl (lit_of h (by kernel_rfl)))))
  · exact (.inr (.inr (.inr (.inl (lit_of h (by kernel_rfl))))))
  · exact (.inr (.inr (.inr (.inr (.inl (lit_of h (by kernel_rfl)))))))
  · exact (.inr (.inr (.inr (.inr (.inr (lit_of h (by kernel_rfl)))))))
theorem rel_none {s : ByteArray} (h : relK s = false) : ¬ s.toList = [61, 58, 61] ∧ ¬ s.toList = [61, 92, 61] ∧ ¬ s.toList = [60] ∧ ¬ s.toList = [62] ∧ ¬ s.toList = [61, 60] ∧ ¬ s.toList = [62, 61] := by
  unfold relK at h
  simp only [Bool.or_eq_false_iff, decide_eq_false_iff_not] at h
  exact ⟨h.1.1.1.1.1, h.1.1.1.1.2, h.1.1.1.2, h.1.1.2, h.1.2, h.2⟩
set_option maxHeartbeats 4000000 in
theorem Known_yes (s : ByteArray) (w : World) (h : relK s = true) : Calls Try.prog 18 #[.string s] w fun e w' => e = .returned (.bool true) ∧ w' = w := by
  rcases rel_cases h with rfl | rfl | rfl | rfl | rfl | rfl
  · clear h
    go_enter Try.func18, Try.ntmps18
    go_wp2_with fail
    go_ret
    exact ⟨rfl, rfl⟩
  · clear h
    go_enter Try.func18, Try.ntmps18
    go_wp2_with fail
    go_ret
    exact ⟨rfl, rfl⟩
  · clear h
    go_enter Try.func18, Try.ntmps18
    go_wp2_with fail
    go_ret
    exact ⟨rfl, rfl⟩
  · clear h
    go_enter Try.func18, Try.ntmps18
    go_wp2_with fail
    go_ret
    exact ⟨rfl, rfl⟩
  · clear h
    go_enter Try.func18, Try.ntmps18
    go_wp2_with fail
    go_ret
    exact ⟨rfl, rfl⟩
  · clear h
    go_enter Try.func18, Try.ntmps18
    go_wp2_with fail
    go_ret
    exact ⟨rfl, rfl⟩
set_option maxHeartbeats 4000000 in
theorem Known_no (s : ByteArray) (w : World) (h : relK s = false) : Calls Try.prog 18 #[.string s] w fun e w' => e = .returned (.bool false) ∧ w' = w := by
  obtain ⟨n0, n1, n2, n3, n4, n5⟩ := rel_none h
  obtain ⟨g0a, g0b⟩ := str_ne n0
  obtain ⟨g1a, g1b⟩ := str_ne n1
  obtain ⟨g2a, g2b⟩ := str_ne n2
  obtain ⟨g3a, g3b⟩ := str_ne n3
  obtain ⟨g4a, g4b⟩ := str_ne n4
  obtain ⟨g5a, g5b⟩ := str_ne n5
  clear n0 n1 n2 n3 n4 n5 h
  go_enter Try.func18, Try.ntmps18
  go_wp2_with fail
  go_ret
  exact ⟨rfl, rfl⟩
set_option maxHeartbeats 4000000 in
theorem Holds_any (s : ByteArray) (a b : Int) (w : World) (h : relK s = true) : Calls Try.prog 19 #[.string s, .int .i64 a, .int .i64 b] w fun e w' => e = .returned (.bool (holdsF s a b)) ∧ w' = w := by
  rcases rel_cases h with rfl | rfl | rfl | rfl | rfl | rfl
  · have HE : holdsF ⟨#[61, 58, 61]⟩ a b = (a == b) := by kernel_rfl
    rw [HE]
    clear h HE
    go_enter Try.func19, Try.ntmps19
    go_wp2_with fail
    go_ret
    exact ⟨rfl, rfl⟩
  · have HE : holdsF ⟨#[61, 92, 61]⟩ a b = (a != b) := by kernel_rfl
    rw [HE]
    clear h HE
    go_enter Try.func19, Try.ntmps19
    go_wp2_with fail
    go_ret
    exact ⟨rfl, rfl⟩
  · have HE : holdsF ⟨#[60]⟩ a b = (decide (a < b)) := by kernel_rfl
    rw [HE]
    clear h HE
    go_enter Try.func19, Try.ntmps19
    go_wp2_with fail
    go_ret
    exact ⟨rfl, rfl⟩
  · have HE : holdsF ⟨#[62]⟩ a b = (decide (b < a)) := by kernel_rfl
    rw [HE]
    clear h HE
    go_enter Try.func19, Try.ntmps19
    go_wp2_with fail
    go_ret
    exact ⟨rfl, rfl⟩
  · have HE : holdsF ⟨#[61, 60]⟩ a b = (decide (a ≤ b)) := by kernel_rfl
    rw [HE]
    clear h HE
    go_enter Try.func19, Try.ntmps19
    go_wp2_with fail
    go_ret
    exact ⟨rfl, rfl⟩
  · have HE : holdsF ⟨#[62, 61]⟩ a b = (decide (b ≤ a)) := by kernel_rfl
    rw [HE]
    clear h HE
    go_enter Try.func19, Try.ntmps19
    go_wp2_with fail
    go_ret
    exact ⟨rfl, rfl⟩
theorem rel1_any (a b : Int) (w : World) : Calls Try.prog 78 #[.int .i64 a, .int .i64 b] w fun e w' => e = .returned (.bool (a == b)) ∧ w' = w := by
  go_enter Try.func78, Try.ntmps78
  go_wp2_with fail
  go_ret
  exact ⟨rfl, rfl⟩
theorem rel2_any (a b : Int) (w : World) : Calls Try.prog 79 #[.int .i64 a, .int .i64 b] w fun e w' => e = .returned (.bool (a != b)) ∧ w' = w := by
  go_enter Try.func79, Try.ntmps79
  go_wp2_with fail
  go_ret
  exact ⟨rfl, rfl⟩
theorem rel3_any (a b : Int) (w : World) : Calls Try.prog 80 #[.int .i64 a, .int .i64 b] w fun e w' => e = .returned (.bool (decide (a < b))) ∧ w' = w := by
  go_enter Try.func80, Try.ntmps80
  go_wp2_with fail
  go_ret
  exact ⟨rfl, rfl⟩
theorem rel4_any (a b : Int) (w : World) : Calls Try.prog 81 #[.int .i64 a, .int .i64 b] w fun e w' => e = .returned (.bool (decide (b < a))) ∧ w' = w := by
  go_enter Try.func81, Try.ntmps81
  go_wp2_with fail
  go_ret
  exact ⟨rfl, rfl⟩
theorem rel5_any (a b : Int) (w : World) : Calls Try.prog 82 #[.int .i64 a, .int .i64 b] w fun e w' => e = .returned (.bool (decide (a ≤ b))) ∧ w' = w := by
  go_enter Try.func82, Try.ntmps82
  go_wp2_with fail
  go_ret
  exact ⟨rfl, rfl⟩
theorem rel6_any (a b : Int) (w : World) : Calls Try.prog 83 #[.int .i64 a, .int .i64 b] w fun e w' => e = .returned (.bool (decide (b ≤ a))) ∧ w' = w := by
  go_enter Try.func83, Try.ntmps83
  go_wp2_with fail
  go_ret
  exact ⟨rfl, rfl⟩
/-- A function that tells a relation. -/
def RelFn (s : ByteArray) (K : Nat) : Prop := (∀ args w, (callFunc K args).run Try.prog w = .ok (.enter K args) w) ∧ ∀ a b w, Calls Try.prog K #[.int .i64 a, .int .i64 b] w fun e w' => e = .returned (.bool (holdsF s a b)) ∧ w' = w
set_option maxHeartbeats 4000000 in
theorem relation_yes (s : ByteArray) (w : World) (h : relK s = true) : Calls Try.prog 50 #[.string s] w fun e w' => ∃ K, e = .returned (.func (.func K) #[] #[]) ∧ RelFn s K ∧ w' = w := by
  rcases rel_cases h with rfl | rfl | rfl | rfl | rfl | rfl
  · have HR : RelFn ⟨#[61, 58, 61]⟩ 78 := ⟨fun args w => by rfl, fun a b w => by
      have HE : holdsF ⟨#[61, 58, 61]⟩ a b = (a == b) := by kernel_rfl
      rw [HE]
      exact rel1_any a b w⟩
    have HR := Lib.hid HR
    clear h
    go_enter Try.func50, Try.ntmps50
    go_wp2_with fail
    go_ret
    exact ⟨_, rfl, HR.out, rfl⟩
  · have HR : RelFn ⟨#[61, 92, 61]⟩ 79 := ⟨fun args w => by rfl, fun a b w => by
      have HE : holdsF ⟨#[61, 92, 61]⟩ a b = (a != b) := by kernel_rfl
      rw [HE]
      exact rel2_any a b w⟩
    have HR := Lib.hid HR
    clear h
    go_enter Try.func50, Try.ntmps50
    go_wp2_with fail
    go_ret
    exact ⟨_, rfl, HR.out, rfl⟩
  · have HR : RelFn ⟨#[60]⟩ 80 := ⟨fun args w => by rfl, fun a b w => by
      have HE : holdsF ⟨#[60]⟩ a b = (decide (a < b)) := by kernel_rfl
      rw [HE]
      exact rel3_any a b w⟩
    have HR := Lib.hid HR
    clear h
    go_enter Try.func50, Try.ntmps50
    go_wp2_with fail
    go_ret
    exact ⟨_, rfl, HR.out, rfl⟩
  · have HR : RelFn ⟨#[62]⟩ 81 := ⟨fun args w => by rfl, fun a b w => by
      have HE : holdsF ⟨#[62]⟩ a b = (decide (b < a)) := by kernel_rfl
      rw [HE]
      exact rel4_any a b w⟩
    have HR := Lib.hid HR
    clear h
    go_enter Try.func50, Try.ntmps50
    go_wp2_with fail
    go_ret
    exact ⟨_, rfl, HR.out, rfl⟩
  · have HR : RelFn ⟨#[61, 60]⟩ 82 := ⟨fun args w => by rfl, fun a b w => by
      have HE : holdsF ⟨#[61, 60]⟩ a b = (decide (a ≤ b)) := by kernel_rfl
      rw [HE]
      exact rel5_any a b w⟩
    have HR := Lib.hid HR
    clear h
    go_enter Try.func50, Try.ntmps50
    go_wp2_with fail
    go_ret
    exact ⟨_, rfl, HR.out, rfl⟩
  · have HR : RelFn ⟨#[62, 61]⟩ 83 := ⟨fun args w => by rfl, fun a b w => by
      have HE : holdsF ⟨#[62, 61]⟩ a b = (decide (b ≤ a)) := by kernel_rfl
      rw [HE]
      exact rel6_any a b w⟩
    have HR := Lib.hid HR
    clear h
    go_enter Try.func50, Try.ntmps50
    go_wp2_with fail
    go_ret
    exact ⟨_, rfl, HR.out, rfl⟩
set_option maxHeartbeats 4000000 in
theorem relation_no (s : ByteArray) (w : World) (h : relK s = false) : Calls Try.prog 50 #[.string s] w fun e w' => e = .returned .nilFunc ∧ w' = w := by
  obtain ⟨n0, n1, n2, n3, n4, n5⟩ := rel_none h
  obtain ⟨g0a, g0b⟩ := str_ne n0
  obtain ⟨g1a, g1b⟩ := str_ne n1
  obtain ⟨g2a, g2b⟩ := str_ne n2
  obtain ⟨g3a, g3b⟩ := str_ne n3
  obtain ⟨g4a, g4b⟩ := str_ne n4
  obtain ⟨g5a, g5b⟩ := str_ne n5
  clear n0 n1 n2 n3 n4 n5 h
  go_enter Try.func50, Try.ntmps50
  go_wp2_with fail
  go_ret
  exact ⟨rfl, rfl⟩
end Go.Proofs.Ytleofkmfeooaaaa.terms
