/- Clauses: what is built in, the reference's. -/
import Derived.Test.YtjmngjbichifjaaClause4
namespace Go.Proofs.Ytjmngjbichifjaa.terms
set_option maxRecDepth 100000
open Go.RowKit Go.Proofs.Ytjmngjbichifjaa.own Go.Maps
set_option maxHeartbeats 4000000 in
theorem in_any (s : ByteArray) (l : List ByteArray) (hlen : l.length ≤ 1000) (b : Nat) (w : World) (hb : w.heap[b]? = some (.cells (l.map Value.string).toArray 9 (0, 0))) :
    Calls Try.prog 62 #[.string s, .slice (some ⟨b, 0, none⟩) l.length l.length] w fun e w' => e = .returned (.bool (decide (s.toList ∈ l.map (·.toList)))) ∧ w' = w := by
  have HC : Hid (∀ (j : Nat) (x : ByteArray), l[j]? = some x → w.cell? ⟨b, j, none⟩ = some (.string x)) := Lib.hid (fun j x hx => by
    rw [cell_of_blk hb j]
    simp [hx])
  have HI0 : Hid (∀ x ∈ l.take 0, ¬ s.toList = x.toList) := Lib.hid (fun x hx => by simp at hx)
  have HG : Hid (∀ G : Bool, (G = true ↔ s.toList ∈ l.map (·.toList)) → decide (s.toList ∈ l.map (·.toList)) = G) := Lib.hid (fun G h => by
    cases G with
    | true => exact decide_eq_true (h.1 rfl)
    | false => exact decide_eq_false (fun e => Bool.false_ne_true (h.2 e)))
  generalize decide (s.toList ∈ l.map (·.toList)) = G at *
  clear hb
  go_enter Try.func62, Try.ntmps62
  go_wp2_with fail
  go_loopw [5] (fun i wr => ∃ j : Nat, i = .int .i64 j ∧ j ≤ l.length ∧ Hid (∀ x ∈ l.take j, ¬ s.toList = x.toList) ∧ wr = w) (fun i _ => l.length - (intOf i).toNat)
  case atStart => exact ⟨0, rfl, by omega, HI0, rfl⟩
  case round =>
    obtain ⟨j, rfl, hj, hI, rfl⟩ := hrel
    clear HI0
    by_cases hlt : j < l.length
    · obtain ⟨x, hx⟩ : ∃ x, l[j]? = some x := ⟨_, List.getElem?_eq_getElem hlt⟩
      have hc := HC.out j x hx
      have HX := Lib.hid hx
      have hj0 : (0 : Int) ≤ (j : Int) := by omega
      have hj1 : (j : Int) < (l.length : Int) := by omega
      clear hx
      by_cases he : x.toList = s.toList
      · obtain rfl := HG.out true ⟨fun _ => List.mem_map.2 ⟨x, List.mem_of_getElem? HX.out, he⟩, fun _ => rfl⟩
        have ee : (x.toList == s.toList) = true := by simpa using he
        clear he HG
        go_wp2_with fail
        go_ret
        exact ⟨rfl, rfl⟩
      · have ee : (x.toList == s.toList) = false := by simpa using he
        have HI2 : Hid (∀ y ∈ l.take (j + 1), ¬ s.toList = y.toList) := Lib.hid (fun y hy => by
          rw [take_snoc HX.out] at hy
          rcases List.mem_append.1 hy with hy | hy
          · exact hI.out y hy
          · rw [List.mem_singleton.1 hy]; exact fun e => he e.symm)
        clear he
        go_wp2_with fail
        go_roundw
        case rel => exact ⟨j + 1, by go_num, by omega, HI2, (by first | rfl | trivial)⟩
        case measure => simp [intOf]; omega
    · obtain rfl : j = l.length := by omega
      obtain rfl := HG.out false ⟨fun e => absurd e Bool.false_ne_true, fun e => by
        obtain ⟨x, hx, hxs⟩ := List.mem_map.1 e
        exact absurd hxs.symm (hI.out x (by rw [List.take_length]; exact hx))⟩
      clear HG
      go_wp2_with fail
      go_ret
      exact ⟨rfl, rfl⟩
def rL0 : List ByteArray := [⟨#[116, 114, 117, 101]⟩, ⟨#[102, 97, 105, 108]⟩, ⟨#[33]⟩, ⟨#[104, 97, 108, 116]⟩, ⟨#[110, 108]⟩]
theorem rL0_lists : rL0.map (·.toList) = [[116, 114, 117, 101], [102, 97, 105, 108], [33], [104, 97, 108, 116], [110, 108]] := by kernel_rfl
theorem rL0_same (s : ByteArray) : decide (s.toList ∈ rL0.map (·.toList)) = decide (s.toList ∈ bL0) := by
  rw [rL0_lists]
  refine decide_eq_decide.2 ⟨fun h => ?_, fun h => ?_⟩
  · simp only [List.mem_cons, List.not_mem_nil, or_false] at h
    rcases h with h | h | h | h | h <;> (rw [h]; decide)
  · simp only [bL0, List.mem_cons, List.not_mem_nil, or_false] at h
    rcases h with h | h | h | h | h <;> (rw [h]; decide)
def rL1 : List ByteArray := [⟨#[92, 43]⟩, ⟨#[99, 97, 108, 108]⟩, ⟨#[116, 104, 114, 111, 119]⟩, ⟨#[118, 97, 114]⟩, ⟨#[110, 111, 110, 118, 97, 114]⟩, ⟨#[97, 116, 111, 109]⟩, ⟨#[105, 110, 116, 101, 103, 101, 114]⟩, ⟨#[99, 111, 109, 112, 111, 117, 110, 100]⟩, ⟨#[97, 115, 115, 101, 114, 116, 122]⟩, ⟨#[97, 115, 115, 101, 114, 116, 97]⟩, ⟨#[114, 101, 116, 114, 97, 99, 116]⟩, ⟨#[119, 114, 105, 116, 101]⟩, ⟨#[58, 45]⟩]
theorem rL1_lists : rL1.map (·.toList) = [[92, 43], [99, 97, 108, 108], [116, 104, 114, 111, 119], [118, 97, 114], [110, 111, 110, 118, 97, 114], [97, 116, 111, 109], [105, 110, 116, 101, 103, 101, 114], [99, 111, 109, 112, 111, 117, 110, 100], [97, 115, 115, 101, 114, 116, 122], [97, 115, 115, 101, 114, 116, 97], [114, 101, 116, 114, 97, 99, 116], [119, 114, 105, 116, 101], [58, 45]] := by kernel_rfl
theorem rL1_same (s : ByteArray) : decide (s.toList ∈ rL1.map (·.toList)) = decide (s.toList ∈ bL1) := by
  rw [rL1_lists]
  refine decide_eq_decide.2 ⟨fun h => ?_, fun h => ?_⟩
  · simp only [List.mem_cons, List.not_mem_nil, or_false] at h
    rcases h with h | h | h | h | h | h | h | h | h | h | h | h | h <;> (rw [h]; decide)
  · simp only [bL1, List.mem_cons, List.not_mem_nil, or_false] at h
    rcases h with h | h | h | h | h | h | h | h | h | h | h | h | h <;> (rw [h]; decide)
def rL2 : List ByteArray := [⟨#[44]⟩, ⟨#[59]⟩, ⟨#[45, 62]⟩, ⟨#[99, 97, 108, 108]⟩, ⟨#[61]⟩, ⟨#[92, 61]⟩, ⟨#[61, 61]⟩, ⟨#[92, 61, 61]⟩, ⟨#[64, 60]⟩, ⟨#[64, 62]⟩, ⟨#[64, 61, 60]⟩, ⟨#[64, 62, 61]⟩, ⟨#[61, 46, 46]⟩, ⟨#[99, 111, 112, 121, 95, 116, 101, 114, 109]⟩, ⟨#[105, 115]⟩, ⟨#[61, 58, 61]⟩, ⟨#[61, 92, 61]⟩, ⟨#[60]⟩, ⟨#[62]⟩, ⟨#[61, 60]⟩, ⟨#[62, 61]⟩, ⟨#[97, 116, 111, 109, 95, 108, 101, 110, 103, 116, 104]⟩, ⟨#[58, 45]⟩]
theorem rL2_lists : rL2.map (·.toList) = [[44], [59], [45, 62], [99, 97, 108, 108], [61], [92, 61], [61, 61], [92, 61, 61], [64, 60], [64, 62], [64, 61, 60], [64, 62, 61], [61, 46, 46], [99, 111, 112, 121, 95, 116, 101, 114, 109], [105, 115], [61, 58, 61], [61, 92, 61], [60], [62], [61, 60], [62, 61], [97, 116, 111, 109, 95, 108, 101, 110, 103, 116, 104], [58, 45]] := by kernel_rfl
theorem rL2_same (s : ByteArray) : decide (s.toList ∈ rL2.map (·.toList)) = decide (s.toList ∈ bL2) := by
  rw [rL2_lists]
  refine decide_eq_decide.2 ⟨fun h => ?_, fun h => ?_⟩
  · simp only [List.mem_cons, List.not_mem_nil, or_false] at h
    rcases h with h | h | h | h | h | h | h | h | h | h | h | h | h | h | h | h | h | h | h | h | h | h | h <;> (rw [h]; decide)
  · simp only [bL2, List.mem_cons, List.not_mem_nil, or_false] at h
    rcases h with h | h | h | h | h | h | h | h | h | h | h | h | h | h | h | h | h | h | h | h | h | h | h <;> (rw [h]; decide)
def rL3 : List ByteArray := [⟨#[99, 97, 108, 108]⟩, ⟨#[99, 97, 116, 99, 104]⟩, ⟨#[102, 105, 110, 100, 97, 108, 108]⟩, ⟨#[99, 111, 109, 112, 97, 114, 101]⟩, ⟨#[102, 117, 110, 99, 116, 111, 114]⟩, ⟨#[97, 114, 103]⟩]
theorem rL3_lists : rL3.map (·.toList) = [[99, 97, 108, 108], [99, 97, 116, 99, 104], [102, 105, 110, 100, 97, 108, 108], [99, 111, 109, 112, 97, 114, 101], [102, 117, 110, 99, 116, 111, 114], [97, 114, 103]] := by kernel_rfl
theorem rL3_same (s : ByteArray) : decide (s.toList ∈ rL3.map (·.toList)) = decide (s.toList ∈ bL3) := by
  rw [rL3_lists]
  refine decide_eq_decide.2 ⟨fun h => ?_, fun h => ?_⟩
  · simp only [List.mem_cons, List.not_mem_nil, or_false] at h
    rcases h with h | h | h | h | h | h <;> (rw [h]; decide)
  · simp only [bL3, List.mem_cons, List.not_mem_nil, or_false] at h
    rcases h with h | h | h | h | h | h <;> (rw [h]; decide)
set_option maxHeartbeats 4000000 in
theorem rBuiltin0 (s : ByteArray) (w : World) : Calls Try.prog 25 #[.string s, .int .i64 0] w fun e w' => e = .returned (.bool (decide (s.toList ∈ bL0))) ∧ Only (fun _ => False) w w' := by
  have HIN := Lib.hid (fun W b h => in_any s rL0 (by decide +kernel) b W h)
  rw [rL0_same s] at HIN
  generalize decide (s.toList ∈ bL0) = G at *
  go_enter Try.func25, Try.ntmps25
  go_wp2_with fail
  refine (HIN.out _ _ (heap_alloc_new w _)).mono ?_
  rintro e w1 ⟨rfl, rfl⟩
  go_wp2_with fail
  go_ret
  exact ⟨rfl, Only.alloc _ _ _⟩
set_option maxHeartbeats 4000000 in
theorem rBuiltin1 (s : ByteArray) (w : World) : Calls Try.prog 25 #[.string s, .int .i64 1] w fun e w' => e = .returned (.bool (decide (s.toList ∈ bL1))) ∧ Only (fun _ => False) w w' := by
  have HIN := Lib.hid (fun W b h => in_any s rL1 (by decide +kernel) b W h)
  rw [rL1_same s] at HIN
  generalize decide (s.toList ∈ bL1) = G at *
  go_enter Try.func25, Try.ntmps25
  go_wp2_with fail
  refine (HIN.out _ _ (heap_alloc_new w _)).mono ?_
  rintro e w1 ⟨rfl, rfl⟩
  go_wp2_with fail
  go_ret
  exact ⟨rfl, Only.alloc _ _ _⟩
set_option maxHeartbeats 4000000 in
theorem rBuiltin2 (s : ByteArray) (w : World) : Calls Try.prog 25 #[.string s, .int .i64 2] w fun e w' => e = .returned (.bool (decide (s.toList ∈ bL2))) ∧ Only (fun _ => False) w w' := by
  have HIN := Lib.hid (fun W b h => in_any s rL2 (by decide +kernel) b W h)
  rw [rL2_same s] at HIN
  generalize decide (s.toList ∈ bL2) = G at *
  go_enter Try.func25, Try.ntmps25
  go_wp2_with fail
  refine (HIN.out _ _ (heap_alloc_new w _)).mono ?_
  rintro e w1 ⟨rfl, rfl⟩
  go_wp2_with fail
  go_ret
  exact ⟨rfl, Only.alloc _ _ _⟩
set_option maxHeartbeats 4000000 in
theorem rBuiltin3 (s : ByteArray) (w : World) : Calls Try.prog 25 #[.string s, .int .i64 3] w fun e w' => e = .returned (.bool (decide (s.toList ∈ bL3))) ∧ Only (fun _ => False) w w' := by
  have HIN := Lib.hid (fun W b h => in_any s rL3 (by decide +kernel) b W h)
  rw [rL3_same s] at HIN
  generalize decide (s.toList ∈ bL3) = G at *
  go_enter Try.func25, Try.ntmps25
  go_wp2_with fail
  refine (HIN.out _ _ (heap_alloc_new w _)).mono ?_
  rintro e w1 ⟨rfl, rfl⟩
  go_wp2_with fail
  go_ret
  exact ⟨rfl, Only.alloc _ _ _⟩
set_option maxHeartbeats 4000000 in
theorem rBuiltin4 (s : ByteArray) (w : World) : Calls Try.prog 25 #[.string s, .int .i64 4] w fun e w' => e = .returned (.bool (decide (s.toList ∈ bL4))) ∧ Only (fun _ => False) w w' := by
  by_cases h : s.toList ∈ bL4
  · rw [decide_eq_true h]
    obtain rfl := in4 h
    clear h
    go_enter Try.func25, Try.ntmps25
    go_wp2_with fail
    go_ret
    exact ⟨rfl, Only.refl _ _⟩
  · rw [decide_eq_false h]
    obtain ⟨ga, gb⟩ := str_ne (out4 h)
    clear h
    go_enter Try.func25, Try.ntmps25
    go_wp2_with fail
    go_ret
    exact ⟨rfl, Only.refl _ _⟩
set_option maxHeartbeats 4000000 in
theorem rBuiltin_any (s : ByteArray) (n : Int) (w : World) : Calls Try.prog 25 #[.string s, .int .i64 n] w fun e w' => e = .returned (.bool (builtB s n)) ∧ Only (fun _ => False) w w' := by
  by_cases h0 : n = 0
  · subst h0
    exact rBuiltin0 s w
  by_cases h1 : n = 1
  · subst h1
    exact rBuiltin1 s w
  by_cases h2 : n = 2
  · subst h2
    exact rBuiltin2 s w
  by_cases h3 : n = 3
  · subst h3
    exact rBuiltin3 s w
  by_cases h4 : n = 4
  · subst h4
    exact rBuiltin4 s w
  have e0 : (n == 0) = false := by simpa using h0
  have e1 : (n == 1) = false := by simpa using h1
  have e2 : (n == 2) = false := by simpa using h2
  have e3 : (n == 3) = false := by simpa using h3
  have e4 : (n == 4) = false := by simpa using h4
  have HE : builtB s n = false := by unfold builtB; rw [if_neg h0, if_neg h1, if_neg h2, if_neg h3, if_neg h4]
  rw [HE]
  clear HE h0 h1 h2 h3 h4
  go_enter Try.func25, Try.ntmps25
  go_wp2_with fail
  go_ret
  exact ⟨rfl, Only.refl _ _⟩
end Go.Proofs.Ytjmngjbichifjaa.terms
