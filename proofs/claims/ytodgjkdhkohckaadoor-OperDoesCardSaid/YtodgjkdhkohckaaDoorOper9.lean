/- Operators: what a table is asked. -/
import Derived.Test.YtodgjkdhkohckaaDoorOper8
namespace Go.Proofs.YtodgjkdhkohckaaDoor.opers
open Go.RowKit Go.Proofs.YtodgjkdhkohckaaDoor.own Go.Maps
set_option maxRecDepth 100000 in
theorem closed_any (b mi mp : Nat) (w : World) (hb : BoxT b mi mp w) : Calls Tryd.prog 30 #[.pointer (some ⟨b, 0, none⟩)] w fun e w' => e = .returned (.bool false) ∧ w' = w := by
  have c0 := cell_of_blk hb 0
  simp only [List.getElem?_toArray, List.getElem?_cons_zero, List.getElem?_cons_succ] at c0
  have hq : ∀ W, (binOp BinOp.eql 50 (.map (some mi)) (.map none)).run Tryd.prog W = .ok (.bool false) W := fun W => by first | rfl | kernel_rfl
  clear hb
  go_enter Tryd.func30, Tryd.ntmps30
  go_wp2_with fail
  go_ret
  exact ⟨rfl, rfl⟩
def zeroD : D1 := opD 0 0 ⟨#[]⟩
theorem zeroOp (w : World) : (zeroValue 32).run Tryd.prog w = .ok (.agg #[.int .i64 0, .int .i64 0, .string ⟨#[]⟩]) w := by kernel_rfl
theorem opR_inv {v : Value} {d : D1} {ps : List MemPlace} (h : opR v = some (d, ps)) : ∃ p k n, v = .agg #[.int .i64 p, .int .i64 k, .string n] ∧ d = opD p k n := by
  unfold opR at h
  split at h
  · rename_i a
    split at h
    · rename_i p k n he
      cases h
      refine ⟨p, k, n, ?_, rfl⟩
      rw [← he, Array.toArray_toList]
    · cases h
  · cases h
/-- What is found. -/
theorem look_any {m n : Nat} {D : D1} {w : World} (h : OMap w m n D) (s : ByteArray) (hs : s.size ≤ maxLen) : ∃ p k x, (Instr.lookup 50 (.map (some m)) (.string s) true).run Tryd.prog w = .ok (.tuple #[.agg #[.int .i64 p, .int .i64 k, .string x], .bool (Maps.has D (keyN s))]) w ∧ opD p k x = D.atKey (keyN s) zeroD := by
  obtain ⟨v, ps, hrun, hv⟩ := World.ownsMap.look_ok h keyed Tryd.underlying50 (zeroOp w) (opR_mk 0 0 ⟨#[]⟩) (keyOfM hs)
  obtain ⟨p, k, x, rfl, hd⟩ := opR_inv hv
  exact ⟨p, k, x, hrun, hd.symm⟩
set_option maxRecDepth 100000 in
set_option maxHeartbeats 2000000 in
theorem infix_any {b mi mp ni np : Nat} {Di Dp : D1} {w : World} (h : Tb b mi mp ni np Di Dp w) (s : ByteArray) (hs : s.size ≤ maxLen) : Calls Tryd.prog 25 #[.pointer (some ⟨b, 0, none⟩), .string s] w fun e w' => (∃ p k x, e = .returned (.tuple #[.agg #[.int .i64 p, .int .i64 k, .string x], .bool (Maps.has Di (keyN s))]) ∧ opD p k x = Di.atKey (keyN s) zeroD) ∧ Only (fun _ => False) w w' := by
  have ho0 : Only (fun _ => False) w (w.alloc (opC 0 0 ⟨#[]⟩)) := Only.alloc _ _ _
  have HC : Hid (∀ W, BoxT b mi mp W → Calls Tryd.prog 30 #[.pointer (some ⟨b, 0, none⟩)] W fun e w' => e = .returned (.bool false) ∧ w' = W) := Lib.hid (closed_any b mi mp)
  have HT0 := Lib.hid (h.later ho0)
  have HO0 := Lib.hid ho0
  have HB0 := Lib.hid (OpAt.new 0 0 ⟨#[]⟩ w)
  obtain ⟨p, k, x, hlk, hd⟩ := look_any (h.later ho0).i s hs
  have HD := Lib.hid hd
  have c0 := cell_of_blk (h.later ho0).box 0
  simp only [List.getElem?_toArray, List.getElem?_cons_zero, List.getElem?_cons_succ] at c0
  generalize Maps.has Di (keyN s) = q at *
  clear h ho0 hd
  go_enter Tryd.func25, Tryd.ntmps25
  go_wp2_with fail
  refine (HC.out _ HT0.out.box).mono ?_
  rintro e w1 ⟨rfl, rfl⟩
  go_wp2_with fail
  have hc := ((OpAt.new p k x w).later (Only.alloc _ _ (opC p k x))).cells
  refine bodyPost_ret (v := .tuple #[.agg #[.int .i64 p, .int .i64 k, .string x], .bool q]) (results_op_tmp rfl _ _ w.heap.size _ _ _ _ rfl rfl hc.1 hc.2.1 hc.2.2) rfl ?_
  exact ⟨⟨p, k, x, rfl, HD.out⟩, (Only.alloc _ _ _).same (Only.alloc _ _ _)⟩
set_option maxRecDepth 100000 in
set_option maxHeartbeats 2000000 in
theorem prefix_any {b mi mp ni np : Nat} {Di Dp : D1} {w : World} (h : Tb b mi mp ni np Di Dp w) (s : ByteArray) (hs : s.size ≤ maxLen) : Calls Tryd.prog 26 #[.pointer (some ⟨b, 0, none⟩), .string s] w fun e w' => (∃ p k x, e = .returned (.tuple #[.agg #[.int .i64 p, .int .i64 k, .string x], .bool (Maps.has Dp (keyN s))]) ∧ opD p k x = Dp.atKey (keyN s) zeroD) ∧ Only (fun _ => False) w w' := by
  have ho0 : Only (fun _ => False) w (w.alloc (opC 0 0 ⟨#[]⟩)) := Only.alloc _ _ _
  have HC : Hid (∀ W, BoxT b mi mp W → Calls Tryd.prog 30 #[.pointer (some ⟨b, 0, none⟩)] W fun e w' => e = .returned (.bool false) ∧ w' = W) := Lib.hid (closed_any b mi mp)
  have HT0 := Lib.hid (h.later ho0)
  have HO0 := Lib.hid ho0
  have HB0 := Lib.hid (OpAt.new 0 0 ⟨#[]⟩ w)
  obtain ⟨p, k, x, hlk, hd⟩ := look_any (h.later ho0).p s hs
  have HD := Lib.hid hd
  have c0 := cell_of_blk (h.later ho0).box 1
  simp only [List.getElem?_toArray, List.getElem?_cons_zero, List.getElem?_cons_succ] at c0
  generalize Maps.has Dp (keyN s) = q at *
  clear h ho0 hd
  go_enter Tryd.func26, Tryd.ntmps26
  go_wp2_with fail
  refine (HC.out _ HT0.out.box).mono ?_
  rintro e w1 ⟨rfl, rfl⟩
  go_wp2_with fail
  have hc := ((OpAt.new p k x w).later (Only.alloc _ _ (opC p k x))).cells
  refine bodyPost_ret (v := .tuple #[.agg #[.int .i64 p, .int .i64 k, .string x], .bool q]) (results_op_tmp rfl _ _ w.heap.size _ _ _ _ rfl rfl hc.1 hc.2.1 hc.2.2) rfl ?_
  exact ⟨⟨p, k, x, rfl, HD.out⟩, (Only.alloc _ _ _).same (Only.alloc _ _ _)⟩
set_option maxRecDepth 100000 in
set_option maxHeartbeats 2000000 in
theorem is_any {b mi mp ni np : Nat} {Di Dp : D1} {w : World} (h : Tb b mi mp ni np Di Dp w) (s : ByteArray) (hs : s.size ≤ maxLen) : Calls Tryd.prog 16 #[.pointer (some ⟨b, 0, none⟩), .string s] w fun e w' => e = .returned (.bool (Maps.has Di (keyN s) || Maps.has Dp (keyN s))) ∧ Only (fun _ => False) w w' := by
  have HT := Lib.hid h
  have HIN : Hid (∀ W, Tb b mi mp ni np Di Dp W → Calls Tryd.prog 25 #[.pointer (some ⟨b, 0, none⟩), .string s] W fun e w' => (∃ p k x, e = .returned (.tuple #[.agg #[.int .i64 p, .int .i64 k, .string x], .bool (Maps.has Di (keyN s))])) ∧ Only (fun _ => False) W w') := Lib.hid (fun W hW => (infix_any hW s hs).mono (fun e w' ⟨⟨p, k, x, h1, _⟩, h2⟩ => ⟨⟨p, k, x, h1⟩, h2⟩))
  have HPR : Hid (∀ W, Tb b mi mp ni np Di Dp W → Calls Tryd.prog 26 #[.pointer (some ⟨b, 0, none⟩), .string s] W fun e w' => (∃ p k x, e = .returned (.tuple #[.agg #[.int .i64 p, .int .i64 k, .string x], .bool (Maps.has Dp (keyN s))])) ∧ Only (fun _ => False) W w') := Lib.hid (fun W hW => (prefix_any hW s hs).mono (fun e w' ⟨⟨p, k, x, h1, _⟩, h2⟩ => ⟨⟨p, k, x, h1⟩, h2⟩))
  clear h hs
  generalize Maps.has Di (keyN s) = q1 at *
  generalize Maps.has Dp (keyN s) = q2 at *
  go_enter Tryd.func16, Tryd.ntmps16
  go_wp2_with fail
  refine (HIN.out _ HT.out).mono ?_
  rintro e w1 ⟨⟨p, k, x, rfl⟩, ho1⟩
  have HO1 : Hid (Only (fun _ => False) w (w1.alloc (opC p k x))) := Lib.hid (ho1.same (Only.alloc _ _ _))
  clear ho1
  go_wp2_with fail
  refine (HPR.out _ (HT.out.later HO1.out)).mono ?_
  rintro e w2 ⟨⟨p2, k2, x2, rfl⟩, ho2⟩
  have HO2 : Hid (Only (fun _ => False) w (w2.alloc (opC p2 k2 x2))) := Lib.hid ((HO1.out.same ho2).same (Only.alloc _ _ _))
  clear ho2
  go_wp2_with fail
  all_goals
    go_ret
    exact ⟨by cases q1 <;> cases q2 <;> first | rfl | simp_all, HO2.out⟩
end Go.Proofs.YtodgjkdhkohckaaDoor.opers
