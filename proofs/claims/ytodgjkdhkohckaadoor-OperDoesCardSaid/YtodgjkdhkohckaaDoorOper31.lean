/- Operators: the reference's list in memory; where an operator stands, what is found, who comes ahead. -/
import Derived.Test.YtodgjkdhkohckaaDoorOper24
import Derived.Test.YtodgjkdhkohckaaDoorOper30
namespace Go.Proofs.YtodgjkdhkohckaaDoor.opers
open Go.RowKit Go.Proofs.YtodgjkdhkohckaaDoor.own Go.Maps Go.Sort Go.Shelf Go.Proofs.YtodgjkdhkohckaaDoor.toks
/-- The reference's table: its cell, and its list in a row of its own behind B. -/
structure RT (B b : Nat) (ao : Option Addr) (cap : Nat) (l : List Op3) (W : World) : Prop where
  box : W.heap[b]? = some (.cells #[.slice ao l.length cap] 55 (0, 0))
  row : RowOf encO 3 32 B ao cap l W
  ge : B ≤ b
  apart : ∀ g, ao = some g → g.block ≠ b
theorem RT.only {B b : Nat} {ao : Option Addr} {cap : Nat} {l : List Op3} {W W' : World} {S : Nat → Prop} (h : RT B b ao cap l W) (ho : Only S W W') (hb : ¬ S b) (hS : ∀ g, ao = some g → ¬ S g.block) : RT B b ao cap l W' :=
  ⟨by rw [ho.block b (lt_of_block h.box) hb]; exact h.box, h.row.only ho hS, h.ge, h.apart⟩
theorem RT.later {B b : Nat} {ao : Option Addr} {cap : Nat} {l : List Op3} {W W' : World} (h : RT B b ao cap l W) (ho : Only (fun _ => False) W W') : RT B b ao cap l W' := h.only ho (fun e => e) (fun _ _ e => e)
theorem RT.cell {B b : Nat} {ao : Option Addr} {cap : Nat} {l : List Op3} {W : World} (h : RT B b ao cap l W) : W.cell? ⟨b, 0, none⟩ = some (.slice ao l.length cap) ∧ W.frozen? ⟨b, 0, none⟩ = false := ⟨by rw [cell_of_blk h.box]; rfl, free_of_blk h.box 0⟩
theorem RT.op {B b : Nat} {ao : Option Addr} {cap : Nat} {l : List Op3} {W : World} (h : RT B b ao cap l W) {j : Nat} {x : Op3} (hj : l[j]? = some x) :
    ∃ g, ao = some ⟨g, 0, none⟩ ∧ B ≤ g ∧ g < W.heap.size ∧ W.cell? ⟨g, j * 3, none⟩ = some (.int .i64 x.p) ∧ W.cell? ⟨g, j * 3 + 1, none⟩ = some (.int .i64 x.k) ∧ W.cell? ⟨g, j * 3 + 2, none⟩ = some (.string x.n) := by
  obtain ⟨g, rfl, hg, hc⟩ := h.row.at lieO j x hj
  exact ⟨g, rfl, hg, (h.row.head _ rfl).2.2, (hc 0 (by decide)).1, (hc 1 (by decide)).1, (hc 2 (by decide)).1⟩
/-- The place of an operator: below 0, there is none. -/
def atR (l : List Op3) (s : ByteArray) (b : Bool) : Int := match l.findIdx? (keyB s b) with | some i => i | none => -1
theorem findIdx_from (f : Op3 → Bool) : ∀ (l : List Op3) (j : Nat), l.findIdx? f = (match (l.drop j).findIdx? f with | some i => some (i + j) | none => none) ∨ ∃ i x, i < j ∧ l[i]? = some x ∧ f x = true
  | l, 0 => .inl (by rw [List.drop_zero]; cases l.findIdx? f <;> rfl)
  | [], j + 1 => .inl (by simp)
  | x :: l, j + 1 => by
    cases hx : f x with
    | true => exact .inr ⟨0, x, by omega, rfl, hx⟩
    | false =>
      rcases findIdx_from f l j with h | ⟨i, y, h1, h2, h3⟩
      · left
        rw [List.findIdx?_cons, hx, List.drop_succ_cons, h]
        cases (l.drop j).findIdx? f <;> simp
        omega
      · exact .inr ⟨i + 1, y, by omega, h2, h3⟩
set_option maxRecDepth 100000 in
set_option maxHeartbeats 4000000 in
theorem at_any (B b : Nat) (ao : Option Addr) (cap : Nat) (l : List Op3) (s : ByteArray) (pre : Bool) (w : World) (h : RT B b ao cap l w) (hn : l.length ≤ 1000000) : Calls Tryd.prog 41 #[.pointer (some ⟨b, 0, none⟩), .string s, .bool pre] w fun e w' => e = .returned (.int .i64 (atR l s pre)) ∧ w' = w := by
  have H := Lib.hid h
  obtain ⟨cb, _⟩ := h.cell
  clear h
  go_enter Tryd.func41, Tryd.ntmps41
  go_wp2_with fail
  go_loopw [7] (fun c wr => ∃ j : Nat, wr = w ∧ c = .int .i64 j ∧ j ≤ l.length ∧ Hid (∀ (i : Nat) (x : Op3), i < j → l[i]? = some x → keyB s pre x = false)) (fun c _ => l.length - (intOf c).toNat)
  case atStart => exact ⟨0, rfl, rfl, by omega, Lib.hid (fun i x hi => by omega)⟩
  case round =>
    obtain ⟨j, rfl, rfl, hj, hI⟩ := hrel
    by_cases hlt : j < l.length
    · obtain ⟨x, hx⟩ : ∃ x, l[j]? = some x := ⟨_, List.getElem?_eq_getElem hlt⟩
      obtain ⟨g, rfl, hg, hgl, c0, c1, c2⟩ := H.out.op hx
      have p0 : (0 : Int) ≤ (j : Int) := by omega
      have p1 : (j : Int) < (l.length : Int) := by omega
      have HNX : Hid (keyB s pre x = false → ∀ (i : Nat) (y : Op3), i < j + 1 → l[i]? = some y → keyB s pre y = false) := Lib.hid (fun hk i y hi hy => by
        rcases Nat.lt_or_ge i j with h | h
        · exact hI.out i y h hy
        · obtain rfl : i = j := by omega
          rw [hx] at hy
          cases hy
          exact hk)
      have HYE : Hid (keyB s pre x = true → atR l s pre = j) := Lib.hid (fun hk => by
        unfold atR
        rw [List.findIdx?_eq_some_iff_getElem.2 ⟨hlt, by rw [List.getElem?_eq_getElem hlt] at hx; cases hx; exact hk, fun i hi => by
          have := hI.out i l[i] hi (List.getElem?_eq_getElem _)
          rw [this]; decide⟩])
      have HKB : Hid (keyB s pre x = ((x.n.toList == s.toList) && (isPreF x.k == pre))) := Lib.hid rfl
      have HPR := Lib.hid (rpre_any x.k wr)
      clear hx
      cases e1 : (x.n.toList == s.toList) with
      | false =>
        have HN := Lib.hid (HNX.out (by rw [HKB.out, e1]; rfl))
        clear HNX HYE hI
        go_wp2_with fail
        go_roundw
        case rel => exact ⟨j + 1, by trivial, by go_num, by omega, HN⟩
        case measure => simp [intOf]; omega
      | true =>
        cases e2 : (isPreF x.k == pre) with
        | false =>
          have HN := Lib.hid (HNX.out (by rw [HKB.out, e1, e2]; rfl))
          clear HNX HYE hI
          go_wp2_with fail
          refine HPR.out.mono ?_
          rintro e w1 ⟨rfl, rfl⟩
          go_wp2_with fail
          go_roundw
          case rel => exact ⟨j + 1, by trivial, by go_num, by omega, HN⟩
          case measure => simp [intOf]; omega
        | true =>
          have HY := Lib.hid (HYE.out (by rw [HKB.out, e1, e2]; rfl))
          clear HNX HYE hI
          go_wp2_with fail
          refine HPR.out.mono ?_
          rintro e w1 ⟨rfl, rfl⟩
          go_wp2_with fail
          go_ret
          exact ⟨by rw [HY.out]; rfl, rfl⟩
    · have HNO : Hid (atR l s pre = -1) := Lib.hid (by
        unfold atR
        rw [List.findIdx?_eq_none_iff.2 (fun x hx => by
          obtain ⟨i, hi⟩ := List.getElem?_of_mem hx
          exact hI.out i x (by have := (List.getElem?_eq_some_iff.1 hi).1; omega) hi)])
      obtain rfl : j = l.length := by omega
      clear hI
      go_wp2_with fail
      go_ret
      exact ⟨by rw [HNO.out]; rfl, rfl⟩
theorem find_idx (f : Op3 → Bool) : ∀ l : List Op3, l.find? f = match l.findIdx? f with | some i => l[i]? | none => none
  | [] => rfl
  | x :: l => by
    rw [List.find?_cons, List.findIdx?_cons, find_idx f l]
    cases f x with
    | true => rfl
    | false => cases l.findIdx? f <;> rfl
def fndV : Option Op3 → Value
  | some x => .tuple #[.agg #[.int .i64 x.p, .int .i64 x.k, .string x.n], .bool true]
  | none => .tuple #[.agg #[.int .i64 0, .int .i64 0, .string ⟨#[]⟩], .bool false]
set_option maxRecDepth 100000 in
set_option maxHeartbeats 4000000 in
theorem find_any (B b : Nat) (ao : Option Addr) (cap : Nat) (l : List Op3) (s : ByteArray) (pre : Bool) (w : World) (h : RT B b ao cap l w) (hn : l.length ≤ 1000000) : Calls Tryd.prog 15 #[.pointer (some ⟨b, 0, none⟩), .string s, .bool pre] w fun e w' => e = .returned (fndV (l.find? (keyB s pre))) ∧ Only (fun _ => False) w w' := by
  have ho0 : Only (fun _ => False) w (w.alloc (opC 0 0 ⟨#[]⟩)) := Only.alloc _ _ _
  have HT := Lib.hid (h.later ho0)
  have HAT := Lib.hid (at_any B b ao cap l s pre _ HT.out hn)
  have HF : Hid (l.find? (keyB s pre) = match l.findIdx? (keyB s pre) with | some i => l[i]? | none => none) := Lib.hid (find_idx _ _)
  have HA : Hid (atR l s pre = match l.findIdx? (keyB s pre) with | some i => (i : Int) | none => -1) := Lib.hid rfl
  obtain ⟨cb, _⟩ := HT.out.cell
  clear h
  cases hf : l.findIdx? (keyB s pre) with
  | none =>
    rw [hf] at HF HA
    have HF2 : Hid (l.find? (keyB s pre) = none) := Lib.hid HF.out
    have ha : atR l s pre = -1 := HA.out
    rw [ha] at HAT
    clear HF HA ha hf
    go_enter Tryd.func15, Tryd.ntmps15
    go_wp2_with fail
    refine HAT.out.mono ?_
    rintro e w1 ⟨rfl, rfl⟩
    go_wp2_with fail
    have hc := (OpAt.new 0 0 ⟨#[]⟩ w).cells
    refine bodyPost_ret (v := .tuple #[.agg #[.int .i64 0, .int .i64 0, .string ⟨#[]⟩], .bool false]) (results_op_tmp rfl _ _ w.heap.size _ _ _ _ rfl rfl hc.1 hc.2.1 hc.2.2) rfl ?_
    exact ⟨by rw [HF2.out]; rfl, Only.alloc _ _ _⟩
  | some i =>
    rw [hf] at HF HA
    obtain ⟨hi, _, _⟩ := List.findIdx?_eq_some_iff_getElem.1 hf
    obtain ⟨x, hx⟩ : ∃ x, l[i]? = some x := ⟨_, List.getElem?_eq_getElem hi⟩
    have HF2 : Hid (l.find? (keyB s pre) = some x) := Lib.hid (by rw [HF.out]; exact hx)
    have ha : atR l s pre = (i : Int) := HA.out
    rw [ha] at HAT
    obtain ⟨g, rfl, hg, hgl, c0, c1, c2⟩ := HT.out.op hx
    have p0 : (0 : Int) ≤ (i : Int) := by omega
    have p1 : (i : Int) < (l.length : Int) := by omega
    have p2 : ¬ (i : Int) < 0 := by omega
    clear HF HA ha hf hx hgl
    go_enter Tryd.func15, Tryd.ntmps15
    go_wp2_with fail
    refine HAT.out.mono ?_
    rintro e w1 ⟨rfl, rfl⟩
    go_wp2_with fail
    have hc := (OpAt.new x.p x.k x.n w).cells
    refine bodyPost_ret (v := .tuple #[.agg #[.int .i64 x.p, .int .i64 x.k, .string x.n], .bool true]) (results_op_tmp rfl _ _ w.heap.size _ _ _ _ rfl rfl hc.1 hc.2.1 hc.2.2) rfl ?_
    exact ⟨by rw [HF2.out]; rfl, Only.alloc _ _ _⟩
set_option maxRecDepth 100000 in
set_option maxHeartbeats 4000000 in
theorem ahead_any (x y : Op3) (w : World) : Calls Tryd.prog 39 #[.agg #[.int .i64 x.p, .int .i64 x.k, .string x.n], .agg #[.int .i64 y.p, .int .i64 y.k, .string y.n]] w fun e w' => e = .returned (.bool (aheadB x y)) ∧ w' = (w.alloc (opC x.p x.k x.n)).alloc (opC y.p y.k y.n) := by
  have HPX : Hid (∀ W, Calls Tryd.prog 45 #[.int .i64 x.k] W fun e w' => e = .returned (.bool (isPreF x.k)) ∧ w' = W) := Lib.hid (rpre_any x.k)
  have HPY : Hid (∀ W, Calls Tryd.prog 45 #[.int .i64 y.k] W fun e w' => e = .returned (.bool (isPreF y.k)) ∧ w' = W) := Lib.hid (rpre_any y.k)
  have HE : Hid (aheadB x y = if (x.n.toList == y.n.toList) = true then !(isPreF x.k) && isPreF y.k else Op.bytesLess x.n.toList y.n.toList) := Lib.hid rfl
  cases e1 : (x.n.toList == y.n.toList) with
  | false =>
    have HE2 : Hid (aheadB x y = Op.bytesLess x.n.toList y.n.toList) := Lib.hid (by rw [HE.out, if_neg (by rw [e1]; decide)])
    clear HE
    go_enter Tryd.func39, Tryd.ntmps39
    go_wp2_with fail
    go_ret
    exact ⟨by rw [HE2.out]; rfl, rfl⟩
  | true =>
    have HE2 : Hid (aheadB x y = (!(isPreF x.k) && isPreF y.k)) := Lib.hid (by rw [HE.out, if_pos e1])
    clear HE
    cases e2 : isPreF x.k with
    | true =>
      rw [e2] at HPX HE2
      go_enter Tryd.func39, Tryd.ntmps39
      go_wp2_with fail
      refine (HPX.out _).mono ?_
      rintro e w1 ⟨rfl, rfl⟩
      go_wp2_with fail
      go_ret
      exact ⟨by rw [HE2.out]; rfl, rfl⟩
    | false =>
      rw [e2] at HPX HE2
      go_enter Tryd.func39, Tryd.ntmps39
      go_wp2_with fail
      refine (HPX.out _).mono ?_
      rintro e w1 ⟨rfl, rfl⟩
      go_wp2_with fail
      refine (HPY.out _).mono ?_
      rintro e w1 ⟨rfl, rfl⟩
      go_wp2_with fail
      go_ret
      exact ⟨by rw [HE2.out]; rfl, rfl⟩
end Go.Proofs.YtodgjkdhkohckaaDoor.opers
