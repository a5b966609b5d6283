/- Arithmetic: operations on numbers. -/
import Derived.Test.YtleofkmfeooaaaaArith1
import Derived.KernelRfl
namespace Go.Proofs.Ytleofkmfeooaaaa.terms
set_option maxRecDepth 100000
open Go.RowKit Go.Proofs.Ytleofkmfeooaaaa.own Go.Maps
def Rng (x : Int) : Prop := -9007199254740991 ≤ x ∧ x ≤ 9007199254740991
/-- Is there an operation of that name and so many arguments? -/
def opB (s : ByteArray) (n : Int) : Bool :=
  if s.toList = [45] then (if n = 1 then true else n == 2)
  else if s.toList = [97, 98, 115] then n == 1
  else if s.toList = [115, 105, 103, 110] then n == 1
  else if s.toList = [43] then n == 2
  else if s.toList = [42] then n == 2
  else if s.toList = [47, 47] then n == 2
  else if s.toList = [109, 111, 100] then n == 2
  else if s.toList = [114, 101, 109] then n == 2
  else if s.toList = [109, 105, 110] then n == 2
  else if s.toList = [109, 97, 120] then n == 2
  else false
theorem lit_of {s u : ByteArray} {l : List UInt8} (h : s.toList = l) (hu : u.toList = l) : s = u := ba_ext (h.trans hu.symm)
theorem op_one {s : ByteArray} (h : opB s 1 = true) : s = ⟨#[45]⟩ ∨ s = ⟨#[97, 98, 115]⟩ ∨ s = ⟨#[115, 105, 103, 110]⟩ := by
  unfold opB at h
  split at h
  · exact .inl (lit_of (by assumption) (by kernel_rfl))
  split at h
  · exact .inr (.inl (lit_of (by assumption) (by kernel_rfl)))
  split at h
  · exact .inr (.inr (lit_of (by assumption) (by kernel_rfl)))
  repeat (split at h; · cases h)
  cases h
theorem op_two {s : ByteArray} (h : opB s 2 = true) : s = ⟨#[45]⟩ ∨ s = ⟨#[43]⟩ ∨ s = ⟨#[42]⟩ ∨ s = ⟨#[47, 47]⟩ ∨ s = ⟨#[109, 111, 100]⟩ ∨ s = ⟨#[114, 101, 109]⟩ ∨ s = ⟨#[109, 105, 110]⟩ ∨ s = ⟨#[109, 97, 120]⟩ := by
  unfold opB at h
  split at h
  · exact (.inl (lit_of (by assumption) (by kernel_rfl)))
  split at h
  · cases h
  split at h
  · cases h
  split at h
  · exact (.inr (.inl (lit_of (by assumption) (by kernel_rfl))))
  split at h
  · exact (.inr (.inr (.inl (lit_of (by assumption) (by kernel_rfl)))))
  split at h
  · exact (.inr (.inr (.inr (.inl (lit_of (by assumption) (by kernel_rfl))))))
  split at h
  · exact (.inr (.inr (.inr (.inr (.inl (lit_of (by assumption) (by kernel_rfl)))))))
  split at h
  · exact (.inr (.inr (.inr (.inr (.inr (.inl (lit_of (by assumption) (by kernel_rfl))))))))
  split at h
  · exact (.inr (.inr (.inr (.inr (.inr (.inr (.inl (lit_of (by assumption) (by kernel_rfl)))))))))
  split at h
  · exact (.inr (.inr (.inr (.inr (.inr (.inr (.inr (lit_of (by assumption) (by kernel_rfl)))))))))
  cases h
theorem op_len {s : ByteArray} {n : Int} (h : opB s n = true) : n = 1 ∨ n = 2 := by
  unfold opB at h
  split at h
  · split at h
    · exact .inl (by assumption)
    · exact .inr (by simpa using h)
  split at h
  · exact .inl (by simpa using h)
  split at h
  · exact .inl (by simpa using h)
  split at h
  · exact .inr (by simpa using h)
  split at h
  · exact .inr (by simpa using h)
  split at h
  · exact .inr (by simpa using h)
  split at h
  · exact .inr (by simpa using h)
  split at h
  · exact .inr (by simpa using h)
  split at h
  · exact .inr (by simpa using h)
  split at h
  · exact .inr (by simpa using h)
  cases h
theorem str_ne {s : ByteArray} {l : List UInt8} (h : ¬ s.toList = l) : (s.toList == l) = false ∧ (l == s.toList) = false := by
  refine ⟨by simpa using h, ?_⟩
  simpa using fun e => h e.symm
set_option maxHeartbeats 8000000 in
theorem isOp_any (s : ByteArray) (n : Int) (w : World) : Calls Try.prog 73 #[.string s, .int .i64 n] w fun e w' => e = .returned (.bool (opB s n)) ∧ w' = w := by
  by_cases h0 : s.toList = [45]
  · obtain rfl : s = ⟨#[45]⟩ := lit_of h0 (by kernel_rfl)
    have hE : opB ⟨#[45]⟩ n = (if n = 1 then true else n == 2) := by kernel_rfl
    rw [hE]
    clear hE h0
    by_cases n1 : n = 1
    · subst n1
      go_enter Try.func73, Try.ntmps73
      go_wp2_with fail
      go_ret
      exact ⟨rfl, rfl⟩
    · have n2 : (n == 1) = false := by simpa using n1
      rw [if_neg n1]
      go_enter Try.func73, Try.ntmps73
      go_wp2_with fail
      go_ret
      exact ⟨rfl, rfl⟩
  · obtain ⟨g0a, g0b⟩ := str_ne h0
    by_cases h1 : s.toList = [97, 98, 115]
    · obtain rfl : s = ⟨#[97, 98, 115]⟩ := lit_of h1 (by kernel_rfl)
      have hE : opB ⟨#[97, 98, 115]⟩ n = (n == 1) := by kernel_rfl
      rw [hE]
      clear hE h0 h1
      go_enter Try.func73, Try.ntmps73
      go_wp2_with fail
      go_ret
      exact ⟨rfl, rfl⟩
    · obtain ⟨g1a, g1b⟩ := str_ne h1
      by_cases h2 : s.toList = [115, 105, 103, 110]
      · obtain rfl : s = ⟨#[115, 105, 103, 110]⟩ := lit_of h2 (by kernel_rfl)
        have hE : opB ⟨#[115, 105, 103, 110]⟩ n = (n == 1) := by kernel_rfl
        rw [hE]
        clear hE h0 h1 h2
        go_enter Try.func73, Try.ntmps73
        go_wp2_with fail
        go_ret
        exact ⟨rfl, rfl⟩
      · obtain ⟨g2a, g2b⟩ := str_ne h2
        by_cases h3 : s.toList = [43]
        · obtain rfl : s = ⟨#[43]⟩ := lit_of h3 (by kernel_rfl)
          have hE : opB ⟨#[43]⟩ n = (n == 2) := by kernel_rfl
          rw [hE]
          clear hE h0 h1 h2 h3
          go_enter Try.func73, Try.ntmps73
          go_wp2_with fail
          go_ret
          exact ⟨rfl, rfl⟩
        · obtain ⟨g3a, g3b⟩ := str_ne h3
          by_cases h4 : s.toList = [42]
          · obtain rfl : s = ⟨#[42]⟩ := lit_of h4 (by kernel_rfl)
            have hE : opB ⟨#[42]⟩ n = (n == 2) := by kernel_rfl
            rw [hE]
            clear hE h0 h1 h2 h3 h4
            go_enter Try.func73, Try.ntmps73
            go_wp2_with fail
            go_ret
            exact ⟨rfl, rfl⟩
          · obtain ⟨g4a, g4b⟩ := str_ne h4
            by_cases h5 : s.toList = [47, 47]
            · obtain rfl : s = ⟨#[47, 47]⟩ := lit_of h5 (by kernel_rfl)
              have hE : opB ⟨#[47, 47]⟩ n = (n == 2) := by kernel_rfl
              rw [hE]
              clear hE h0 h1 h2 h3 h4 h5
              go_enter Try.func73, Try.ntmps73
              go_wp2_with fail
              go_ret
              exact ⟨rfl, rfl⟩
            · obtain ⟨g5a, g5b⟩ := str_ne h5
              by_cases h6 : s.toList = [109, 111, 100]
              · obtain rfl : s = ⟨#[109, 111, 100]⟩ := lit_of h6 (by kernel_rfl)
                have hE : opB ⟨#[109, 111, 100]⟩ n = (n == 2) := by kernel_rfl
                rw [hE]
                clear hE h0 h1 h2 h3 h4 h5 h6
                go_enter Try.func73, Try.ntmps73
                go_wp2_with fail
                go_ret
                exact ⟨rfl, rfl⟩
              · obtain ⟨g6a, g6b⟩ := str_ne h6
                by_cases h7 : s.toList = [114, 101, 109]
                · obtain rfl : s = ⟨#[114, 101, 109]⟩ := lit_of h7 (by kernel_rfl)
                  have hE : opB ⟨#[114, 101, 109]⟩ n = (n == 2) := by kernel_rfl
                  rw [hE]
                  clear hE h0 h1 h2 h3 h4 h5 h6 h7
                  go_enter Try.func73, Try.ntmps73
                  go_wp2_with fail
                  go_ret
                  exact ⟨rfl, rfl⟩
                · obtain ⟨g7a, g7b⟩ := str_ne h7
                  by_cases h8 : s.toList = [109, 105, 110]
                  · obtain rfl : s = ⟨#[109, 105, 110]⟩ := lit_of h8 (by kernel_rfl)
                    have hE : opB ⟨#[109, 105, 110]⟩ n = (n == 2) := by kernel_rfl
                    rw [hE]
                    clear hE h0 h1 h2 h3 h4 h5 h6 h7 h8
                    go_enter Try.func73, Try.ntmps73
                    go_wp2_with fail
                    go_ret
                    exact ⟨rfl, rfl⟩
                  · obtain ⟨g8a, g8b⟩ := str_ne h8
                    by_cases h9 : s.toList = [109, 97, 120]
                    · obtain rfl : s = ⟨#[109, 97, 120]⟩ := lit_of h9 (by kernel_rfl)
                      have hE : opB ⟨#[109, 97, 120]⟩ n = (n == 2) := by kernel_rfl
                      rw [hE]
                      clear hE h0 h1 h2 h3 h4 h5 h6 h7 h8 h9
                      go_enter Try.func73, Try.ntmps73
                      go_wp2_with fail
                      go_ret
                      exact ⟨rfl, rfl⟩
                    · obtain ⟨g9a, g9b⟩ := str_ne h9
                      have hE : opB s n = false := by unfold opB; rw [if_neg h0, if_neg h1, if_neg h2, if_neg h3, if_neg h4, if_neg h5, if_neg h6, if_neg h7, if_neg h8, if_neg h9]
                      rw [hE]
                      clear hE h0 h1 h2 h3 h4 h5 h6 h7 h8 h9
                      go_enter Try.func73, Try.ntmps73
                      go_wp2_with fail
                      go_ret
                      exact ⟨rfl, rfl⟩
set_option maxHeartbeats 8000000 in
theorem known_any (s : ByteArray) (n : Int) (w : World) : Calls Try.prog 75 #[.string s, .int .i64 n] w fun e w' => e = .returned (.bool (opB s n)) ∧ w' = w := by
  by_cases h0 : s.toList = [45]
  · obtain rfl : s = ⟨#[45]⟩ := lit_of h0 (by kernel_rfl)
    have hE : opB ⟨#[45]⟩ n = (if n = 1 then true else n == 2) := by kernel_rfl
    rw [hE]
    clear hE h0
    by_cases n1 : n = 1
    · subst n1
      go_enter Try.func75, Try.ntmps75
      go_wp2_with fail
      go_ret
      exact ⟨rfl, rfl⟩
    · have n2 : (n == 1) = false := by simpa using n1
      rw [if_neg n1]
      go_enter Try.func75, Try.ntmps75
      go_wp2_with fail
      go_ret
      exact ⟨rfl, rfl⟩
  · obtain ⟨g0a, g0b⟩ := str_ne h0
    by_cases h1 : s.toList = [97, 98, 115]
    · obtain rfl : s = ⟨#[97, 98, 115]⟩ := lit_of h1 (by kernel_rfl)
      have hE : opB ⟨#[97, 98, 115]⟩ n = (n == 1) := by kernel_rfl
      rw [hE]
      clear hE h0 h1
      go_enter Try.func75, Try.ntmps75
      go_wp2_with fail
      go_ret
      exact ⟨rfl, rfl⟩
    · obtain ⟨g1a, g1b⟩ := str_ne h1
      by_cases h2 : s.toList = [115, 105, 103, 110]
      · obtain rfl : s = ⟨#[115, 105, 103, 110]⟩ := lit_of h2 (by kernel_rfl)
        have hE : opB ⟨#[115, 105, 103, 110]⟩ n = (n == 1) := by kernel_rfl
        rw [hE]
        clear hE h0 h1 h2
        go_enter Try.func75, Try.ntmps75
        go_wp2_with fail
        go_ret
        exact ⟨rfl, rfl⟩
      · obtain ⟨g2a, g2b⟩ := str_ne h2
        by_cases h3 : s.toList = [43]
        · obtain rfl : s = ⟨#[43]⟩ := lit_of h3 (by kernel_rfl)
          have hE : opB ⟨#[43]⟩ n = (n == 2) := by kernel_rfl
          rw [hE]
          clear hE h0 h1 h2 h3
          go_enter Try.func75, Try.ntmps75
          go_wp2_with fail
          go_ret
          exact ⟨rfl, rfl⟩
        · obtain ⟨g3a, g3b⟩ := str_ne h3
          by_cases h4 : s.toList = [42]
          · obtain rfl : s = ⟨#[42]⟩ := lit_of h4 (by kernel_rfl)
            have hE : opB ⟨#[42]⟩ n = (n == 2) := by kernel_rfl
            rw [hE]
            clear hE h0 h1 h2 h3 h4
            go_enter Try.func75, Try.ntmps75
            go_wp2_with fail
            go_ret
            exact ⟨rfl, rfl⟩
          · obtain ⟨g4a, g4b⟩ := str_ne h4
            by_cases h5 : s.toList = [47, 47]
            · obtain rfl : s = ⟨#[47, 47]⟩ := lit_of h5 (by kernel_rfl)
              have hE : opB ⟨#[47, 47]⟩ n = (n == 2) := by kernel_rfl
              rw [hE]
              clear hE h0 h1 h2 h3 h4 h5
              go_enter Try.func75, Try.ntmps75
              go_wp2_with fail
              go_ret
              exact ⟨rfl, rfl⟩
            · obtain ⟨g5a, g5b⟩ := str_ne h5
              by_cases h6 : s.toList = [109, 111, 100]
              · obtain rfl : s = ⟨#[109, 111, 100]⟩ := lit_of h6 (by kernel_rfl)
                have hE : opB ⟨#[109, 111, 100]⟩ n = (n == 2) := by kernel_rfl
                rw [hE]
                clear hE h0 h1 h2 h3 h4 h5 h6
                go_enter Try.func75, Try.ntmps75
                go_wp2_with fail
                go_ret
                exact ⟨rfl, rfl⟩
              · obtain ⟨g6a, g6b⟩ := str_ne h6
                by_cases h7 : s.toList = [114, 101, 109]
                · obtain rfl : s = ⟨#[114, 101, 109]⟩ := lit_of h7 (by kernel_rfl)
                  have hE : opB ⟨#[114, 101, 109]⟩ n = (n == 2) := by kernel_rfl
                  rw [hE]
                  clear hE h0 h1 h2 h3 h4 h5 h6 h7
                  go_enter Try.func75, Try.ntmps75
                  go_wp2_with fail
                  go_ret
                  exact ⟨rfl, rfl⟩
                · obtain ⟨g7a, g7b⟩ := str_ne h7
                  by_cases h8 : s.toList = [109, 105, 110]
                  · obtain rfl : s = ⟨#[109, 105, 110]⟩ := lit_of h8 (by kernel_rfl)
                    have hE : opB ⟨#[109, 105, 110]⟩ n = (n == 2) := by kernel_rfl
                    rw [hE]
                    clear hE h0 h1 h2 h3 h4 h5 h6 h7 h8
                    go_enter Try.func75, Try.ntmps75
                    go_wp2_with fail
                    go_ret
                    exact ⟨rfl, rfl⟩
                  · obtain ⟨g8a, g8b⟩ := str_ne h8
                    by_cases h9 : s.toList = [109, 97, 120]
                    · obtain rfl : s = ⟨#[109, 97, 120]⟩ := lit_of h9 (by kernel_rfl)
                      have hE : opB ⟨#[109, 97, 120]⟩ n = (n == 2) := by kernel_rfl
                      rw [hE]
                      clear hE h0 h1 h2 h3 h4 h5 h6 h7 h8 h9
                      go_enter Try.func75, Try.ntmps75
                      go_wp2_with fail
                      go_ret
                      exact ⟨rfl, rfl⟩
                    · obtain ⟨g9a, g9b⟩ := str_ne h9
                      have hE : opB s n = false := by unfold opB; rw [if_neg h0, if_neg h1, if_neg h2, if_neg h3, if_neg h4, if_neg h5, if_neg h6, if_neg h7, if_neg h8, if_neg h9]
                      rw [hE]
                      clear hE h0 h1 h2 h3 h4 h5 h6 h7 h8 h9
                      go_enter Try.func75, Try.ntmps75
                      go_wp2_with fail
                      go_ret
                      exact ⟨rfl, rfl⟩
end Go.Proofs.Ytleofkmfeooaaaa.terms
