/- Selection by keys: the law of keys. -/
import Derived.Test.YtbondghdbjmbfaaIdx23
namespace Go.Proofs.Ytbondghdbjmbfaa.idx
set_option maxRecDepth 100000
open Go.RowKit Go.Proofs.Ytbondghdbjmbfaa.own Go.Lib Go.Maps Go.WideMaps
/-- A term's box and two keys' boxes, since w. -/
structure Kz (bt ba bb : Nat) (k n : Int) (s : ByteArray) (ao : Option Addr) (m c : Nat) (a b : Ky) (w W : World) : Prop where
  t : Four bt k n s ao m c W
  a : Three ba a W
  b : Three bb b W
  o : Only (fun _ => False) w W
section
variable {bt ba bb : Nat} {k n : Int} {s : ByteArray} {ao : Option Addr} {m c : Nat} {a b : Ky} {w W W' : World}
theorem Kz.later (h : Kz bt ba bb k n s ao m c a b w W) (o : Only (fun _ => False) W W') : Kz bt ba bb k n s ao m c a b w W' := ⟨h.t.only o (fun e => e), h.a.only o (fun e => e), h.b.only o (fun e => e), h.o.same o⟩
theorem Kz.cells (h : Kz bt ba bb k n s ao m c a b w W) : (W.cell? ⟨bt, 0, none⟩ = some (.int .i64 k) ∧ W.cell? ⟨bt, 1, none⟩ = some (.int .i64 n) ∧ W.cell? ⟨bt, 2, none⟩ = some (.string s) ∧ W.cell? ⟨bt, 3, none⟩ = some (.slice ao m c)) ∧ (W.cell? ⟨ba, 0, none⟩ = some (.int .i64 a.k) ∧ W.cell? ⟨ba, 1, none⟩ = some (.string a.s) ∧ W.cell? ⟨ba, 2, none⟩ = some (.int .i64 a.n)) ∧ W.cell? ⟨bb, 0, none⟩ = some (.int .i64 b.k) ∧ W.cell? ⟨bb, 1, none⟩ = some (.string b.s) ∧ W.cell? ⟨bb, 2, none⟩ = some (.int .i64 b.n) := ⟨h.t.cells, h.a.cells, h.b.cells⟩
end
set_option maxHeartbeats 16000000 in
theorem law_keys (t : Go.Proofs.Ytbondghdbjmbfaa.terms.T) (ao : Option Addr) (c : Nat) (a b : Ky) (w : World) (hl : Go.Proofs.Ytbondghdbjmbfaa.terms.Lies w ao t.l) : Calls Try.prog 3 #[.agg #[.int .i64 t.k, .int .i64 t.n, .string t.s, .slice ao t.l.length c], .agg #[.int .i64 a.k, .string a.s, .int .i64 a.n], .agg #[.int .i64 b.k, .string b.s, .int .i64 b.n]] w fun e w' => e = .returned (.bool true) ∧ Below w.heap.size w w' := by
  obtain ⟨A, hA⟩ : ∃ A, A = w.alloc (.cells #[.int .i64 t.k, .int .i64 t.n, .string t.s, .slice ao t.l.length c] 24) := ⟨_, rfl⟩
  obtain ⟨C, hC⟩ : ∃ C, C = A.alloc (.cells #[.int .i64 a.k, .string a.s, .int .i64 a.n] 26) := ⟨_, rfl⟩
  obtain ⟨E, hE⟩ : ∃ E, E = C.alloc (.cells #[.int .i64 b.k, .string b.s, .int .i64 b.n] 26) := ⟨_, rfl⟩
  have hA0 : A.heap.size = w.heap.size + 1 := by rw [hA]; simp
  have hC0 : C.heap.size = w.heap.size + 1 + 1 := by rw [hC]; simp [hA0]
  have oA : Only (fun _ => False) w A := by rw [hA]; exact Only.alloc _ _ _
  have oC : Only (fun _ => False) A C := by rw [hC]; exact Only.alloc _ _ _
  have oE : Only (fun _ => False) C E := by rw [hE]; exact Only.alloc _ _ _
  have H0 : Hid (Kz w.heap.size (w.heap.size + 1) (w.heap.size + 1 + 1) t.k t.n t.s ao t.l.length c a b w E) := Lib.hid ⟨Four.only (w := A) (by unfold Four; rw [hA]; exact heap_alloc_new _ _) (oC.same oE) (fun e => e), Three.only (w := C) (by unfold Three; rw [← hA0, hC]; exact heap_alloc_new _ _) oE (fun e => e), by unfold Three; rw [← hC0, hE]; exact heap_alloc_new _ _, (oA.same oC).same oE⟩
  have HF : Hid (∀ W, Only (fun _ => False) w W → Calls Try.prog 11 #[.agg #[.int .i64 t.k, .int .i64 t.n, .string t.s, .slice ao t.l.length c]] W fun e w' => e = .returned (.agg #[.int .i64 (firstK t).k, .string (firstK t).s, .int .i64 (firstK t).n]) ∧ Only (fun _ => False) W w') := Lib.hid (fun W o => firstOf_any t ao c W (hl.later o))
  have HG : Hid (∀ W, Only (fun _ => False) w W → Calls Try.prog 12 #[.agg #[.int .i64 t.k, .int .i64 t.n, .string t.s, .slice ao t.l.length c]] W fun e w' => e = .returned (.agg #[.int .i64 (firstK t).k, .string (firstK t).s, .int .i64 (firstK t).n]) ∧ Only (fun _ => False) W w') := Lib.hid (fun W o => rfirstOf_any t ao c W (hl.later o))
  have HK : Hid (∀ W, Calls Try.prog 9 #[.agg #[.int .i64 t.k, .int .i64 t.n, .string t.s, .slice ao t.l.length c]] W fun e w' => e = .returned (.agg #[.int .i64 (keyT t).k, .string (keyT t).s, .int .i64 (keyT t).n]) ∧ Only (fun _ => False) W w') := Lib.hid (fun W => keyOf_any t.k t.n t.s ao t.l.length c W)
  have HL : Hid (∀ W, Calls Try.prog 10 #[.agg #[.int .i64 t.k, .int .i64 t.n, .string t.s, .slice ao t.l.length c]] W fun e w' => e = .returned (.agg #[.int .i64 (keyT t).k, .string (keyT t).s, .int .i64 (keyT t).n]) ∧ Only (fun _ => False) W w') := Lib.hid (fun W => rkeyOf_any t.k t.n t.s ao t.l.length c W)
  have HM : Hid (∀ W, Calls Try.prog 13 #[.agg #[.int .i64 a.k, .string a.s, .int .i64 a.n], .agg #[.int .i64 b.k, .string b.s, .int .i64 b.n]] W fun e w' => e = .returned (.bool (meetB a b)) ∧ Only (fun _ => False) W w') := Lib.hid (fun W => meet_any a b W)
  have HN : Hid (∀ W, Calls Try.prog 14 #[.agg #[.int .i64 a.k, .string a.s, .int .i64 a.n], .agg #[.int .i64 b.k, .string b.s, .int .i64 b.n]] W fun e w' => e = .returned (.bool (meetB a b)) ∧ Only (fun _ => False) W w') := Lib.hid (fun W => rmeet_any a b W)
  rw [hC, hA] at hE
  clear hA0 hC0 oA oC oE hl hA hC
  generalize firstK t = kf1 at *
  generalize keyT t = kt1 at *
  generalize meetB a b = mb at *
  generalize t.k = tk at *
  generalize t.n = tn at *
  generalize t.s = ts at *
  generalize t.l.length = tl at *
  go_enter Try.func3, Try.ntmps3
  go_upto_region 1 with fail
  rw [← hE]
  clear hE
  generalize w.heap.size + 1 + 1 = bb at *
  generalize w.heap.size + 1 = ba at *
  generalize w.heap.size = bt at *
  go_region_held3 (fun W => (W.cell? ⟨bt, 0, none⟩ = some (.int .i64 tk) ∧ W.cell? ⟨bt, 1, none⟩ = some (.int .i64 tn) ∧ W.cell? ⟨bt, 2, none⟩ = some (.string ts) ∧ W.cell? ⟨bt, 3, none⟩ = some (.slice ao tl c)) ∧ (W.cell? ⟨ba, 0, none⟩ = some (.int .i64 a.k) ∧ W.cell? ⟨ba, 1, none⟩ = some (.string a.s) ∧ W.cell? ⟨ba, 2, none⟩ = some (.int .i64 a.n)) ∧ W.cell? ⟨bb, 0, none⟩ = some (.int .i64 b.k) ∧ W.cell? ⟨bb, 1, none⟩ = some (.string b.s) ∧ W.cell? ⟨bb, 2, none⟩ = some (.int .i64 b.n)) (with_reducible first | exact H7.out.cells | exact H6.out.cells | exact H5.out.cells | exact H4.out.cells | exact H3.out.cells | exact H2.out.cells | exact H1.out.cells | exact (H0.out.later (Only.drew _ _)).cells | exact H0.out.cells) (first
      | (go_at_call 8; (with_reducible refine (lives_any _).mono ?_); rintro r u1 ⟨rfl, ho⟩; have H1 := Lib.hid ((H0.out.later (Only.drew _ _)).later ho); clear ho)
      | (go_at_call 9; (with_reducible refine (HK.out u1).mono ?_); rintro r u2 ⟨rfl, ho⟩; have H2 := Lib.hid (H1.out.later ho); clear ho)
      | (go_at_call 10; (with_reducible refine (HL.out u2).mono ?_); rintro r u3 ⟨rfl, ho⟩; have H3 := Lib.hid (H2.out.later ho); clear ho)
      | (go_at_call 11; (with_reducible refine (HF.out u3 H3.out.o).mono ?_); rintro r u4 ⟨rfl, ho⟩; have H4 := Lib.hid (H3.out.later ho); clear ho)
      | (go_at_call 12; (with_reducible refine (HG.out u4 H4.out.o).mono ?_); rintro r u5 ⟨rfl, ho⟩; have H5 := Lib.hid (H4.out.later ho); clear ho)
      | (go_at_call 13; (with_reducible refine (HM.out u5).mono ?_); rintro r u6 ⟨rfl, ho⟩; have H6 := Lib.hid (H5.out.later ho); clear ho)
      | (go_at_call 14; (with_reducible refine (HN.out u6).mono ?_); rintro r u7 ⟨rfl, ho⟩; have H7 := Lib.hid (H6.out.later ho); clear ho))
  all_goals
    go_wp2_with fail
    go_ret
    exact ⟨rfl, H7.out.o.to_below⟩
end Go.Proofs.Ytbondghdbjmbfaa.idx
