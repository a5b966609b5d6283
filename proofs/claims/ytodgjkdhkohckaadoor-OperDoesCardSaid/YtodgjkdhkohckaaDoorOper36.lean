/- Operators: the reference's Set, where nothing is set. -/
import Derived.Test.YtodgjkdhkohckaaDoorOper35
import Derived.Test.YtodgjkdhkohckaaDoorRefPl
namespace Go.Proofs.YtodgjkdhkohckaaDoor.opers
open Go.RowKit Go.Proofs.YtodgjkdhkohckaaDoor.own Go.Maps Go.Sort Go.Shelf Go.Proofs.YtodgjkdhkohckaaDoor.toks
theorem rplain_str (s : ByteArray) (w : World) (hs : s.size ≤ 1000000) : Calls Tryd.prog 56 #[.string s] w fun e w' => e = .returned (.bool (plainB s)) ∧ w' = w := by
  have e : bstr s.data.toList = s := by
    obtain ⟨a⟩ := s
    show ByteArray.mk a.toList.toArray = _
    rw [Array.toArray_toList]
  have h := rplain_any s.data.toList w (by simpa using hs)
  rw [e] at h
  exact h
theorem type_no {k : Int} (h : isTypeF k = false) : k < 1 ∨ (¬ k < 1 ∧ k > 5) := by
  unfold isTypeF at h
  rw [Bool.and_eq_false_iff, decide_eq_false_iff_not, decide_eq_false_iff_not] at h
  omega
theorem type_yes {k : Int} (h : isTypeF k = true) : ¬ k < 1 ∧ ¬ k > 5 := by
  unfold isTypeF at h
  rw [Bool.and_eq_true, decide_eq_true_eq, decide_eq_true_eq] at h
  omega
theorem mays_yes {s : ByteArray} (h : maysetB s = true) : plainB s = true ∧ (s.toList == [91, 93]) = false ∧ (s.toList == [123, 125]) = false ∧ ¬ (s.size : Int) > 64 := by
  unfold maysetB at h
  simp only [Bool.and_eq_true, decide_eq_true_eq, Bool.not_eq_true'] at h
  exact ⟨h.2.2.2, h.2.1, h.2.2.1, by omega⟩
theorem mays_no {s : ByteArray} (h : maysetB s = false) : plainB s = false ∨ (plainB s = true ∧ (s.toList == [91, 93]) = true) ∨ (plainB s = true ∧ (s.toList == [91, 93]) = false ∧ (s.toList == [123, 125]) = true) ∨ (plainB s = true ∧ (s.toList == [91, 93]) = false ∧ (s.toList == [123, 125]) = false ∧ (s.size : Int) > 64) := by
  unfold maysetB at h
  cases h1 : plainB s with
  | false => exact .inl rfl
  | true =>
    cases h2 : (s.toList == [91, 93]) with
    | true => exact .inr (.inl ⟨rfl, rfl⟩)
    | false =>
      cases h3 : (s.toList == [123, 125]) with
      | true => exact .inr (.inr (.inl ⟨rfl, rfl, rfl⟩))
      | false =>
        rw [h1, h2, h3] at h
        simp at h
        exact .inr (.inr (.inr ⟨rfl, rfl, rfl, by omega⟩))
set_option maxRecDepth 100000 in
set_option maxHeartbeats 8000000 in
theorem rset_arg (b : Nat) (p k : Int) (s : ByteArray) (w : World) (h : p < 0 ∨ (¬ p < 0 ∧ p > 1200) ∨ (¬ p < 0 ∧ ¬ p > 1200 ∧ k < 1) ∨ (¬ p < 0 ∧ ¬ p > 1200 ∧ ¬ k < 1 ∧ k > 5)) : Calls Tryd.prog 40 #[.pointer (some ⟨b, 0, none⟩), .agg #[.int .i64 p, .int .i64 k, .string s]] w fun e w' => e = .returned (.int .i64 1) ∧ Only (fun _ => False) w w' := by
  have HB := opBoxes p k s w
  have HO0 : Hid (Only (fun _ => False) w (w.alloc (opC p k s))) := Lib.hid (Only.alloc _ _ _)
  obtain ⟨c0, c1, c2⟩ := HB.out _ (Only.refl _ _)
  rcases h with h1 | ⟨h1, h2⟩ | ⟨h1, h2, h3⟩ | ⟨h1, h2, h3, h4⟩
  all_goals
    go_enter Tryd.func40, Tryd.ntmps40
    go_wp2_with fail
    go_ret
    exact ⟨rfl, HO0.out⟩
set_option maxRecDepth 100000 in
set_option maxHeartbeats 8000000 in
theorem rset_name (b : Nat) (p k : Int) (s : ByteArray) (w : World) (h1 : ¬ p < 0) (h2 : ¬ p > 1200) (h3 : isTypeF k = true) (h4 : maysetB s = false) (hs : s.size ≤ 1000000) : Calls Tryd.prog 40 #[.pointer (some ⟨b, 0, none⟩), .agg #[.int .i64 p, .int .i64 k, .string s]] w fun e w' => e = .returned (.int .i64 90) ∧ Only (fun _ => False) w w' := by
  have HB := opBoxes p k s w
  have HO0 : Hid (Only (fun _ => False) w (w.alloc (opC p k s))) := Lib.hid (Only.alloc _ _ _)
  obtain ⟨c0, c1, c2⟩ := HB.out _ (Only.refl _ _)
  have HPL : Hid (∀ W, Calls Tryd.prog 56 #[.string s] W fun e w' => e = .returned (.bool (plainB s)) ∧ w' = W) := Lib.hid (fun W => rplain_str s W hs)
  obtain ⟨h5, h6⟩ := type_yes h3
  clear h3
  rcases mays_no h4 with g | ⟨g, g1⟩ | ⟨g, g1, g2⟩ | ⟨g, g1, g2, g3⟩
  all_goals
    rw [g] at HPL
    clear g h4
    go_enter Tryd.func40, Tryd.ntmps40
    go_wp2_with fail
    refine (HPL.out _).mono ?_
    rintro e w1 ⟨rfl, rfl⟩
    go_wp2_with fail
    go_ret
    exact ⟨rfl, HO0.out⟩
theorem atR_no {l : List Op3} {s : ByteArray} {b : Bool} (h : l.any (keyB s b) = false) : atR l s b = -1 := by
  unfold atR
  rw [List.any_eq_false] at h
  rw [List.findIdx?_eq_none_iff.2 (fun x hx => by simpa using h x hx)]
theorem atR_yes {l : List Op3} {s : ByteArray} {b : Bool} (h : l.any (keyB s b) = true) : ∃ i : Nat, atR l s b = i ∧ i < l.length ∧ l.findIdx? (keyB s b) = some i := by
  unfold atR
  cases hf : l.findIdx? (keyB s b) with
  | some i => exact ⟨i, rfl, (List.findIdx?_eq_some_iff_getElem.1 hf).1, rfl⟩
  | none =>
    exfalso
    obtain ⟨x, hx, hk⟩ := List.any_eq_true.1 h
    rw [List.findIdx?_eq_none_iff.1 hf x hx] at hk
    cases hk
set_option maxRecDepth 100000 in
set_option maxHeartbeats 8000000 in
theorem rset_none (B b : Nat) (ao : Option Addr) (cap : Nat) (l : List Op3) (k : Int) (s : ByteArray) (w : World) (h : RT B b ao cap l w) (h3 : isTypeF k = true) (h4 : maysetB s = true) (h6 : l.any (keyB s (isPreF k)) = false) (hn : l.length ≤ 100000) : Calls Tryd.prog 40 #[.pointer (some ⟨b, 0, none⟩), .agg #[.int .i64 0, .int .i64 k, .string s]] w fun e w' => e = .returned (.int .i64 4) ∧ Only (fun _ => False) w w' := by
  have HB := opBoxes 0 k s w
  have HO0 : Hid (Only (fun _ => False) w (w.alloc (opC 0 k s))) := Lib.hid (Only.alloc _ _ _)
  have HT := Lib.hid h
  have HAT : Hid (∀ W, Only (fun _ => False) w W → Calls Tryd.prog 41 #[.pointer (some ⟨b, 0, none⟩), .string s, .bool (isPreF k)] W fun e w' => e = .returned (.int .i64 (-1)) ∧ w' = W) := Lib.hid (fun W ho => by have := at_any B b ao cap l s (isPreF k) W (h.later ho) (by omega); rw [atR_no h6] at this; exact this)
  have HPR : Hid (∀ W, Calls Tryd.prog 45 #[.int .i64 k] W fun e w' => e = .returned (.bool (isPreF k)) ∧ w' = W) := Lib.hid (rpre_any k)
  obtain ⟨c0, c1, c2⟩ := HB.out _ (Only.refl _ _)
  have hsz := mayset_size h4
  have HPL : Hid (∀ W, Calls Tryd.prog 56 #[.string s] W fun e w' => e = .returned (.bool (plainB s)) ∧ w' = W) := Lib.hid (fun W => rplain_str s W (by omega))
  obtain ⟨h7, h8⟩ := type_yes h3
  obtain ⟨g, g1, g2, g3⟩ := mays_yes h4
  rw [g] at HPL
  generalize isPreF k = kp at *
  clear h3 h4 h h6 g hsz
  go_enter Tryd.func40, Tryd.ntmps40
  go_wp2_with fail
  refine (HPL.out _).mono ?_
  rintro e w1 ⟨rfl, rfl⟩
  go_wp2_with fail
  go_quiet (first | (go_at_call 45; exact Calls.quiet_of_same (HPR.out _)) | (go_at_call 41; exact Calls.quiet_of_same (HAT.out _ (HO0.out.same (Only.drewN _ _ _)))))
  have HO1 : Hid (Only (fun _ => False) w ((w.alloc (opC 0 k s)).drewN nq)) := Lib.hid (HO0.out.same (Only.drewN _ _ _))
  have HBQ : Hid (∀ W, Only (fun _ => False) ((w.alloc (opC 0 k s)).drewN nq) W → W.cell? ⟨w.heap.size, 0, none⟩ = some (.int .i64 0) ∧ W.cell? ⟨w.heap.size, 1, none⟩ = some (.int .i64 k) ∧ W.cell? ⟨w.heap.size, 2, none⟩ = some (.string s)) := Lib.hid (fun W ho => HB.out W ((Only.drewN _ _ _).same ho))
  have HTQ := Lib.hid (HT.out.later HO1.out)
  have HBL : Hid (w.heap.size < ((w.alloc (opC 0 k s)).drewN nq).heap.size) := Lib.hid (by simp)
  have hbne : Hid (b < w.heap.size ∧ ∀ g, ao = some g → g.block < w.heap.size) := Lib.hid ⟨lt_of_block HT.out.box, fun g hg => (HT.out.row.head g hg).2.2⟩
  clear c0 c1 c2 HB HO0 HAT HPR HPL HT
  obtain ⟨c0, c1, c2⟩ := HBQ.out _ (Only.refl _ _)
  obtain ⟨cb, fb⟩ := HTQ.out.cell
  generalize (w.alloc (opC 0 k s)).drewN nq = wq at *
  generalize hbx : w.heap.size = bx at *
  go_wp2_with fail
  go_ret
  exact ⟨rfl, HO1.out⟩
set_option maxRecDepth 100000 in
set_option maxHeartbeats 8000000 in
theorem rset_full (B b : Nat) (ao : Option Addr) (cap : Nat) (l : List Op3) (p k : Int) (s : ByteArray) (w : World) (h : RT B b ao cap l w) (hp : 0 < p) (h2 : ¬ p > 1200) (h3 : isTypeF k = true) (h4 : maysetB s = true) (h6 : l.any (keyB s (isPreF k)) = false) (h9 : 64 ≤ l.length) (hn : l.length ≤ 100000) : Calls Tryd.prog 40 #[.pointer (some ⟨b, 0, none⟩), .agg #[.int .i64 p, .int .i64 k, .string s]] w fun e w' => e = .returned (.int .i64 2) ∧ Only (fun _ => False) w w' := by
  have h1 : ¬ p < 0 := by omega
  have h0 : (p == 0) = false := by rw [beq_eq_false_iff_ne]; omega
  have HB := opBoxes p k s w
  have HO0 : Hid (Only (fun _ => False) w (w.alloc (opC p k s))) := Lib.hid (Only.alloc _ _ _)
  have HT := Lib.hid h
  have HAT : Hid (∀ W, Only (fun _ => False) w W → Calls Tryd.prog 41 #[.pointer (some ⟨b, 0, none⟩), .string s, .bool (isPreF k)] W fun e w' => e = .returned (.int .i64 (-1)) ∧ w' = W) := Lib.hid (fun W ho => by have := at_any B b ao cap l s (isPreF k) W (h.later ho) (by omega); rw [atR_no h6] at this; exact this)
  have HPR : Hid (∀ W, Calls Tryd.prog 45 #[.int .i64 k] W fun e w' => e = .returned (.bool (isPreF k)) ∧ w' = W) := Lib.hid (rpre_any k)
  obtain ⟨c0, c1, c2⟩ := HB.out _ (Only.refl _ _)
  have hsz := mayset_size h4
  have HPL : Hid (∀ W, Calls Tryd.prog 56 #[.string s] W fun e w' => e = .returned (.bool (plainB s)) ∧ w' = W) := Lib.hid (fun W => rplain_str s W (by omega))
  obtain ⟨h7, h8⟩ := type_yes h3
  obtain ⟨g, g1, g2, g3⟩ := mays_yes h4
  rw [g] at HPL
  generalize isPreF k = kp at *
  clear h3 h4 h h6 g hsz
  go_enter Tryd.func40, Tryd.ntmps40
  go_wp2_with fail
  refine (HPL.out _).mono ?_
  rintro e w1 ⟨rfl, rfl⟩
  go_wp2_with fail
  go_quiet (first | (go_at_call 45; exact Calls.quiet_of_same (HPR.out _)) | (go_at_call 41; exact Calls.quiet_of_same (HAT.out _ (HO0.out.same (Only.drewN _ _ _)))))
  have HO1 : Hid (Only (fun _ => False) w ((w.alloc (opC p k s)).drewN nq)) := Lib.hid (HO0.out.same (Only.drewN _ _ _))
  have HBQ : Hid (∀ W, Only (fun _ => False) ((w.alloc (opC p k s)).drewN nq) W → W.cell? ⟨w.heap.size, 0, none⟩ = some (.int .i64 p) ∧ W.cell? ⟨w.heap.size, 1, none⟩ = some (.int .i64 k) ∧ W.cell? ⟨w.heap.size, 2, none⟩ = some (.string s)) := Lib.hid (fun W ho => HB.out W ((Only.drewN _ _ _).same ho))
  have HTQ := Lib.hid (HT.out.later HO1.out)
  have HBL : Hid (w.heap.size < ((w.alloc (opC p k s)).drewN nq).heap.size) := Lib.hid (by simp)
  have hbne : Hid (b < w.heap.size ∧ ∀ g, ao = some g → g.block < w.heap.size) := Lib.hid ⟨lt_of_block HT.out.box, fun g hg => (HT.out.row.head g hg).2.2⟩
  clear c0 c1 c2 HB HO0 HAT HPR HPL HT
  obtain ⟨c0, c1, c2⟩ := HBQ.out _ (Only.refl _ _)
  obtain ⟨cb, fb⟩ := HTQ.out.cell
  generalize (w.alloc (opC p k s)).drewN nq = wq at *
  generalize hbx : w.heap.size = bx at *
  have h9b : (64 : Int) ≤ (l.length : Int) := by omega
  go_wp2_with fail
  go_ret
  exact ⟨rfl, HO1.out⟩
end Go.Proofs.YtodgjkdhkohckaaDoor.opers
