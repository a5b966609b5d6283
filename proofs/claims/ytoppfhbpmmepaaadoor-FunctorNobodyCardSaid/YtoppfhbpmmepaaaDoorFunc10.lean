/- Functors: Put, of one that is there and of a new one. -/
import Derived.Test.YtoppfhbpmmepaaaDoorFunc9
namespace Go.Proofs.YtoppfhbpmmepaaaDoor.functors
open Go.RowKit Go.Proofs.YtoppfhbpmmepaaaDoor.own Go.Maps
variable {SA SF : Nat → Prop} {ta b : Nat} {la made made' lim : Int} {al al' : List atoms.ASlot} {sl : List FSlot} {w0 w w' : World} {low : Nat}
/-- The pair came on: what it owns grew by new blocks alone, and nothing else turned. -/
def Moved (SA SF : Nat → Prop) (ta b : Nat) (la made : Int) (al : List atoms.ASlot) (lim : Int) (low : Nat) (sl : List FSlot) (w0 w w' : World) : Prop := ∃ SA' SF', FSt SA' SF' ta b la made al lim low sl w0 w' ∧ (∀ k, SA' k ∨ SF' k → Grew (fun k => SA k ∨ SF k) w w' k) ∧ Only (fun k => SA k ∨ SF k) w w'
theorem FSt.moved {w1 : World} (h : FSt (Grew SA w w1) SF ta b la made al lim low sl w0 w1) (ho : Only SA w w1) (h2 : Only (fun _ => False) w1 w') (hB : w0.heap.size ≤ w1.heap.size) : Moved SA SF ta b la made al lim low sl w0 w w' := by
  have s1 := ho.size
  have s2 := h2.size
  refine ⟨_, _, h.quiet h2 (h2.below hB (fun _ _ e => e.elim)), ?_, (ho.mono (fun _ _ e => .inl e)).same (h2.no _)⟩
  rintro k ((hk | hk) | hk)
  · exact .inl (.inl hk)
  · exact .inr ⟨hk.1, by omega⟩
  · exact .inl (.inr hk)
theorem look_at {m u : Nat} {D : D1} (hD : MapP m u D w) {key : Value} {kl : Lit} (hkey : keyOf Tryd.prog 90 key = some kl) {c : Int} {y : Bool} (hat : D.atKey kl (.lit (.int .i64 0)) = .lit (.int .i64 c)) (hh : Maps.has D kl = y) :
    (Instr.lookup 80 (.map (some m)) key true).run Tryd.prog w = .ok (.tuple #[.int .i64 c, .bool y]) w := by
  obtain ⟨v, ps, hrun, hv⟩ := hD.look_ok keyedF Tryd.underlying80 (zeroI w) (plainElem_int Tryd.underlying3 (by decide)) hkey
  obtain ⟨c', rfl, hc, _⟩ := plainElem_int_inv Tryd.underlying3 hv
  have e := hat.symm.trans (congrArg Prod.fst hc)
  simp only [DataW.lit.injEq, Lit.int.injEq, true_and] at e
  rw [hrun, hh, e]
set_option maxRecDepth 100000 in
set_option maxHeartbeats 1000000 in
theorem put_old (n : ByteArray) (k : Int) (h : FSt SA SF ta b la made al lim low sl w0 w) (hk : 1 ≤ k ∧ k ≤ 16) (hm0 : 0 ≤ made) (hm1 : made ≤ 4294967296) (r : atoms.IRes) (hr : atoms.internF la made al n = r) (he : r.err = 0) (hid : 0 ≤ r.id ∧ r.id < 65536) (j : Nat) (hj : fidF sl r.id k = some j) :
    Calls Tryd.prog 18 #[.pointer (some ⟨b, 0, none⟩), .string n, .int .i64 k] w fun e w' => e = .returned (.tuple #[.int .i64 j, .int .i64 0]) ∧ Moved SA SF ta b la r.made r.sl lim low sl w0 w w' := by
  obtain ⟨ao, cap, m, hc⟩ := h.fn
  have HC := Lib.hid (closed_no hc)
  have HI := Lib.hid (atoms.st_intern n h.at_ hm0 hm1 r hr)
  have H := Lib.hid h
  have HC0 := Lib.hid hc
  have c1 := cell_of_blk hc.blk 1
  simp only [List.getElem?_toArray, List.getElem?_cons_succ, List.getElem?_cons_zero] at c1
  have h0 : ¬ k < 1 := by omega
  have h1 : ¬ k > 16 := by omega
  have HJ := Lib.hid hj
  have HID := Lib.hid hid
  have HK := Lib.hid hk
  clear h hc hk hr hj hid
  go_enter Tryd.func18, Tryd.ntmps18
  go_wp2_with fail
  refine HC.out.mono ?_
  rintro e w1 ⟨rfl, rfl⟩
  go_wp2_with fail
  refine HI.out.mono ?_
  rintro e w1 ⟨rfl, hst, ho⟩
  have HW := Lib.hid (H.out.atoms hst ho)
  have HO := Lib.hid ho
  have HC1 := Lib.hid (HC0.out.only ho H.out.apart)
  clear hst ho c1
  rw [he]
  generalize r.id = a at *
  go_wp2_with fail
  have HQ : Hid (Only (fun _ => False) w1 (w1.alloc (.cells #[.int .i64 a, .int .i64 k] 90))) := Lib.hid (Only.alloc _ _ _)
  have HB : Hid ((w1.alloc (.cells #[.int .i64 a, .int .i64 k] 90)).heap[w1.heap.size]? = some (.cells #[.int .i64 a, .int .i64 k] 90 (0, 0))) := Lib.hid (heap_alloc_new w1 _)
  generalize hob : w1.heap.size = ob at *
  generalize w1.alloc (.cells #[.int .i64 a, .int .i64 k] 90) = w2 at *
  have HC2 := Lib.hid (HC1.out.only HQ.out (fun _ _ e => e))
  have hwa := wfI HID.out
  have hwk := wfI (show 0 ≤ k ∧ k < 65536 by have := HK.out; omega)
  have hkey := keyOfI hwa hwk
  have c3 := cell_of_blk HC2.out.blk 3
  simp only [List.getElem?_toArray, List.getElem?_cons_succ, List.getElem?_cons_zero] at c3
  have e0 : w2.cell? ⟨ob, 0, none⟩ = some (.int .i64 a) := by rw [cell_of_blk HB.out]; rfl
  have e1 : w2.cell? ⟨ob, 1, none⟩ = some (.int .i64 k) := by rw [cell_of_blk HB.out]; rfl
  obtain ⟨D, hD, hM⟩ := HC2.out.map
  have HD := Lib.hid hD
  obtain ⟨x, hx, hu, rfl, rfl⟩ := fidF_some HJ.out
  have hin : idOf sl x.name j := ⟨x, hx, hu, rfl⟩
  have hhas := hM.has_yes hin
  rw [← keyI_N] at hhas
  have HAT := Lib.hid (hM.at_yes HC2.out.apart hin (.lit (.int .i64 0)))
  rw [← keyI_N] at HAT
  clear hD hM hin hx hu hwa hwk hob
  have hlk : ∀ q, (Instr.lookup 80 (.map (some m)) (.agg #[.int .i64 (x.name.a : Int), .int .i64 (x.name.n : Int)]) true).run Tryd.prog (w2.drewN q) = .ok (.tuple #[.int .i64 (j : Int), .bool true]) (w2.drewN q) := fun q => look_at (map_only HD.out (Only.drewN (fun _ => False) w2 q) (fun e => e)) hkey HAT.out hhas
  clear hhas
  go_quiet (fail)
  have hM := HW.out.moved HO.out (HQ.out.same (Only.drewN _ w2 nq)) HW.out.at_.below.size
  have HM := Lib.hid hM
  clear hM
  generalize w2.drewN nq = w3 at *
  go_wp2_with fail
  all_goals (go_ret2; exact ⟨rfl, HM.out⟩)
end Go.Proofs.YtoppfhbpmmepaaaDoor.functors
