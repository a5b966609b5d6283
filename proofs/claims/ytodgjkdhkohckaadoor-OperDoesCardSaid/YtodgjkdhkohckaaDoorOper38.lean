/- Operators: the reference's Set, where something is set. -/
import Derived.Test.YtodgjkdhkohckaaDoorOper36
namespace Go.Proofs.YtodgjkdhkohckaaDoor.opers
open Go.RowKit Go.Proofs.YtodgjkdhkohckaaDoor.own Go.Maps Go.Sort Go.Shelf Go.Proofs.YtodgjkdhkohckaaDoor.toks
/-- One item of the list is another one, in the row that it lies in. -/
theorem RT.put {B b g : Nat} {cap : Nat} {l : List Op3} {W : World} (h : RT B b (some ⟨g, 0, none⟩) cap l W) {i : Nat} {y : Op3} (hy : l[i]? = some y) (x : Op3) :
    RT B b (some ⟨g, 0, none⟩) cap (l.set i x) (((W.setCell ⟨g, i * 3, none⟩ (.int .i64 x.p)).setCell ⟨g, i * 3 + 1, none⟩ (.int .i64 x.k)).setCell ⟨g, i * 3 + 2, none⟩ (.string x.n)) ∧ Only (RS b (some ⟨g, 0, none⟩)) W (((W.setCell ⟨g, i * 3, none⟩ (.int .i64 x.p)).setCell ⟨g, i * 3 + 1, none⟩ (.int .i64 x.k)).setCell ⟨g, i * 3 + 2, none⟩ (.string x.n)) := by
  have hi : i < l.length := (List.getElem?_eq_some_iff.1 hy).1
  obtain ⟨r1, o1⟩ := h.row.stored lieO i 0 y ⟨x.p, y.k, y.n⟩ (.int .i64 x.p) hy (by decide) rfl
  obtain ⟨r2, o2⟩ := r1.stored lieO i 1 ⟨x.p, y.k, y.n⟩ ⟨x.p, x.k, y.n⟩ (.int .i64 x.k) (by simp [hi]) (by decide) rfl
  obtain ⟨r3, o3⟩ := r2.stored lieO i 2 ⟨x.p, x.k, y.n⟩ x (.string x.n) (by simp [hi]) (by decide) rfl
  rw [List.set_set, List.set_set] at r3
  have ho := (o1.same o2).same o3
  refine ⟨⟨?_, r3, h.ge, h.apart⟩, ho.mono (fun q _ e => .inr ⟨⟨g, 0, none⟩, rfl, e⟩)⟩
  rw [List.length_set]
  exact (ho.block b (lt_of_block h.box) (fun e => h.apart _ rfl e.symm)).trans h.box
set_option maxRecDepth 100000 in
set_option maxHeartbeats 8000000 in
theorem rset_put (B b : Nat) (ao : Option Addr) (cap : Nat) (l : List Op3) (p k : Int) (s : ByteArray) (w : World) (h : RT B b ao cap l w) (hp : 0 < p) (h2 : ¬ p > 1200) (h3 : isTypeF k = true) (h4 : maysetB s = true) (i : Nat) (h6 : atR l s (isPreF k) = (i : Int)) (hi : i < l.length) (hn : l.length ≤ 100000) : Calls Tryd.prog 40 #[.pointer (some ⟨b, 0, none⟩), .agg #[.int .i64 p, .int .i64 k, .string s]] w fun e w' => e = .returned (.int .i64 0) ∧ (∃ ao' cap', RT B b ao' cap' (l.set i ⟨p, k, s⟩) w' ∧ NewRow w.heap.size ao ao') ∧ Only (RS b ao) w w' := by
  have h1 : ¬ p < 0 := by omega
  have h0 : (p == 0) = false := by rw [beq_eq_false_iff_ne]; omega
  have HB := opBoxes p k s w
  have HO0 : Hid (Only (fun _ => False) w (w.alloc (opC p k s))) := Lib.hid (Only.alloc _ _ _)
  have HT := Lib.hid h
  have HAT : Hid (∀ W, Only (fun _ => False) w W → Calls Tryd.prog 41 #[.pointer (some ⟨b, 0, none⟩), .string s, .bool (isPreF k)] W fun e w' => e = .returned (.int .i64 (i : Int)) ∧ w' = W) := Lib.hid (fun W ho => by have := at_any B b ao cap l s (isPreF k) W (h.later ho) (by omega); rw [h6] at this; exact this)
  have HPR : Hid (∀ W, Calls Tryd.prog 45 #[.int .i64 k] W fun e w' => e = .returned (.bool (isPreF k)) ∧ w' = W) := Lib.hid (rpre_any k)
  obtain ⟨c0, c1, c2⟩ := HB.out _ (Only.refl _ _)
  have hsz := mayset_size h4
  have HPL : Hid (∀ W, Calls Tryd.prog 56 #[.string s] W fun e w' => e = .returned (.bool (plainB s)) ∧ w' = W) := Lib.hid (fun W => rplain_str s W (by omega))
  obtain ⟨h7, h8⟩ := type_yes h3
  obtain ⟨g, g1, g2, g3⟩ := mays_yes h4
  rw [g] at HPL
  generalize isPreF k = kp at *
  clear h3 h4 h h6 g hsz
  go_enter Tryd.func40, Tryd.ntmps40
  go_wp2_with fail
  refine (HPL.out _).mono ?_
  rintro e w1 ⟨rfl, rfl⟩
  go_wp2_with fail
  go_quiet (first | (go_at_call 45; exact Calls.quiet_of_same (HPR.out _)) | (go_at_call 41; exact Calls.quiet_of_same (HAT.out _ (HO0.out.same (Only.drewN _ _ _)))))
  have HO1 : Hid (Only (fun _ => False) w ((w.alloc (opC p k s)).drewN nq)) := Lib.hid (HO0.out.same (Only.drewN _ _ _))
  have HBQ : Hid (∀ W, Only (fun _ => False) ((w.alloc (opC p k s)).drewN nq) W → W.cell? ⟨w.heap.size, 0, none⟩ = some (.int .i64 p) ∧ W.cell? ⟨w.heap.size, 1, none⟩ = some (.int .i64 k) ∧ W.cell? ⟨w.heap.size, 2, none⟩ = some (.string s)) := Lib.hid (fun W ho => HB.out W ((Only.drewN _ _ _).same ho))
  have HTQ := Lib.hid (HT.out.later HO1.out)
  have HBL : Hid (w.heap.size < ((w.alloc (opC p k s)).drewN nq).heap.size) := Lib.hid (by simp)
  have hbne : Hid (b < w.heap.size ∧ ∀ g, ao = some g → g.block < w.heap.size) := Lib.hid ⟨lt_of_block HT.out.box, fun g hg => (HT.out.row.head g hg).2.2⟩
  clear c0 c1 c2 HB HO0 HAT HPR HPL HT
  obtain ⟨c0, c1, c2⟩ := HBQ.out _ (Only.refl _ _)
  obtain ⟨cb, fb⟩ := HTQ.out.cell
  generalize (w.alloc (opC p k s)).drewN nq = wq at *
  generalize hbx : w.heap.size = bx at *
  have p0 : (0 : Int) ≤ (i : Int) := by omega
  have p1 : (i : Int) < (l.length : Int) := by omega
  obtain ⟨y, hy⟩ : ∃ y, l[i]? = some y := ⟨_, List.getElem?_eq_getElem hi⟩
  obtain ⟨g, hao, hg, hgl, y0, y1, y2⟩ := HTQ.out.op hy
  subst hao
  go_wp2_with fail
  go_still_tail 7, (by kernel_rfl)
  change wpList _ _ _ _ _ wq.drew
  have oD : Only (fun _ => False) wq wq.drew := Only.drew _ _
  have HT3 := Lib.hid (HTQ.out.later oD)
  have HO3 := Lib.hid (HO1.out.same oD)
  have HY := Lib.hid hy
  clear c0 c1 c2 cb fb y0 y1 y2
  obtain ⟨c0, c1, c2⟩ := HBQ.out _ oD
  obtain ⟨cb, fb⟩ := HT3.out.cell
  obtain ⟨g', e1, _, hc⟩ := HT3.out.row.at lieO i y hy
  cases e1
  obtain ⟨y0, f0⟩ := hc 0 (by decide)
  obtain ⟨y1, f1⟩ := hc 1 (by decide)
  obtain ⟨y2, f2⟩ := hc 2 (by decide)
  simp only [encO, List.getElem?_cons_zero, List.getElem?_cons_succ, Nat.add_zero] at y0 y1 y2 f0 f1 f2
  clear hc hy oD HTQ HBQ
  generalize wq.drew = w3 at *
  go_wp2_with fail
  go_ret
  refine ⟨rfl, ?_⟩
  have HP := HT3.out.put HY.out ⟨p, k, s⟩
  exact ⟨⟨_, _, HP.1, NewRow.refl _ _⟩, (HO3.out.mono (fun _ _ e => e.elim)).trans HP.2 (fun _ _ e => e)⟩
end Go.Proofs.YtodgjkdhkohckaaDoor.opers
