/- Operators: All. -/
import Derived.Test.YtodgjkdhkohckaaDoorOper19
namespace Go.Proofs.YtodgjkdhkohckaaDoor.opers
open Go.RowKit Go.Proofs.YtodgjkdhkohckaaDoor.own Go.Maps Go.Sort Go.Shelf
theorem row_slice {W : World} {base : Nat} {v : Value} {xs : List Op3} (h : W.ownsRow base 32 3 v xs.length (xs.flatMap encO)) : ∃ ao cap, v = .slice ao xs.length cap ∧ RowOf encO 3 32 base ao cap xs W := by
  rcases h.2 with ⟨e, h0⟩ | ⟨g, cap, cur, e, hr⟩
  · refine ⟨none, 0, by rw [e, h0], ?_⟩
    rw [e] at h
    unfold RowOf
    rw [h0] at h ⊢
    exact h
  · refine ⟨some ⟨g, 0, none⟩, cap, e, ?_⟩
    rw [e] at h
    exact h
set_option maxRecDepth 100000 in
theorem values_any (m : Option Nat) (w : World) : Calls Tryd.prog 32 #[.map m] w fun e w' => e = .returned (.func (.func 51) #[] #[.pointer (some ⟨w.heap.size, 0, none⟩)]) ∧ w' = w.alloc (.cells #[.map m] 50) := by
  go_enter Tryd.func32, Tryd.ntmps32
  go_wp2_with fail
  go_ret
  exact ⟨rfl, rfl⟩
theorem appendRow_any (Bm b nn base : Nat) (D0 : D1) (ao : Option Addr) (cap : Nat) (xs0 : List Op3) (w : World) (hbase : base ≤ w.heap.size) (hm : w.cell? ⟨Bm, 0, none⟩ = some (.map (some b))) (hBm : Bm < w.heap.size) (hown : OMap w b nn D0)
    (hrow : RowOf encO 3 32 base ao cap xs0 w) (hsz : xs0.length + Maps.size D0 ≤ 1000000) :
    Calls Tryd.prog 33 #[.slice ao xs0.length cap, .func (.func 51) #[] #[.pointer (some ⟨Bm, 0, none⟩)]] w fun e w' => ∃ xs ao' cap', ValsOf D0 xs ∧ e = .returned (.slice ao' (xs0 ++ xs).length cap') ∧ RowOf encO 3 32 base ao' cap' (xs0 ++ xs) w' ∧ Below base w w' := by
  refine (appendSeq_any Bm b nn base D0 ao cap xs0 w hbase hm hBm hown hrow hsz).mono ?_
  rintro e w' ⟨xs, v', hv, rfl, hr, hb⟩
  obtain ⟨ao', cap', rfl, h⟩ := row_slice hr
  exact ⟨xs, ao', cap', hv, rfl, h, hb⟩
set_option maxRecDepth 100000 in
theorem collect_any (Bm b nn base : Nat) (D0 : D1) (w : World) (hbase : base ≤ w.heap.size) (hm : w.cell? ⟨Bm, 0, none⟩ = some (.map (some b))) (hBm : Bm < w.heap.size) (hown : OMap w b nn D0) (hsz : Maps.size D0 ≤ 1000000) :
    Calls Tryd.prog 31 #[.func (.func 51) #[] #[.pointer (some ⟨Bm, 0, none⟩)]] w fun e w' => ∃ xs ao' cap', ValsOf D0 xs ∧ e = .returned (.slice ao' xs.length cap') ∧ RowOf encO 3 32 base ao' cap' xs w' ∧ Below base w w' := by
  have HA : Hid (Calls Tryd.prog 33 #[.slice none 0 0, .func (.func 51) #[] #[.pointer (some ⟨Bm, 0, none⟩)]] w fun e w' => ∃ xs ao' cap', ValsOf D0 xs ∧ e = .returned (.slice ao' xs.length cap') ∧ RowOf encO 3 32 base ao' cap' xs w' ∧ Below base w w') := Lib.hid ((appendRow_any Bm b nn base D0 none 0 [] w hbase hm hBm hown (RowOf.nil _ _ _ _ _) (by simpa using hsz)).mono (fun e w' h => by simpa using h))
  clear hm hown
  go_enter Tryd.func31, Tryd.ntmps31
  go_wp2_with fail
  refine HA.out.mono ?_
  rintro e w1 ⟨xs, ao', cap', hv, rfl, hr, hb⟩
  have HR := Lib.hid (And.intro hv (And.intro hr hb))
  clear hv hr hb
  go_wp2_with fail
  go_ret
  exact ⟨xs, ao', cap', HR.out.1, rfl, HR.out.2.1, HR.out.2.2⟩
set_option maxRecDepth 100000 in
set_option maxHeartbeats 2000000 in
theorem all_any {b mi mp n : Nat} {Di Dp : D1} {w : World} (h : Tb b mi mp n n Di Dp w) (hn : n ≤ 100000) : Calls Tryd.prog 12 #[.pointer (some ⟨b, 0, none⟩)] w fun e w' => ∃ xs ao cap, e = .returned (.slice ao xs.length cap) ∧ AllIs Di Dp xs ∧ RowO w.heap.size ao xs w' ∧ Only (fun _ => False) w w' := by
  have HT0 := Lib.hid h
  have HC : Hid (∀ W, BoxT b mi mp W → Calls Tryd.prog 30 #[.pointer (some ⟨b, 0, none⟩)] W fun e w' => e = .returned (.bool false) ∧ w' = W) := Lib.hid (closed_any b mi mp)
  have HK : Hid (∀ W, Below w.heap.size w W → W.cell? ⟨b, 0, none⟩ = some (.map (some mi)) ∧ W.cell? ⟨b, 1, none⟩ = some (.map (some mp)) ∧ OMap W mi n Di ∧ OMap W mp n Dp) := Lib.hid (fun W hb => by
    have ho : Only (fun _ => False) w W := Only.of_below hb _
    have h2 := h.later ho
    exact ⟨cell_of_blk h2.box 0, cell_of_blk h2.box 1, h2.i, h2.p⟩)
  have HSZ : Hid (Maps.size Di ≤ 100000 ∧ Maps.size Dp ≤ 100000) := Lib.hid ⟨by have := h.i.size_le; omega, by have := h.p.size_le; omega⟩
  have HV : Hid (∀ D xs, ValsOf D xs → xs.length = Maps.size D) := Lib.hid (fun D xs hv => by
    obtain ⟨ps, hp, _, rfl⟩ := hv
    rw [List.length_map, ← List.length_map (f := (·.1)), hp.1.length_eq]
    cases D <;> simp [strKeys, Maps.size])
  obtain ⟨k0, _, _, _⟩ := HK.out w (Below.refl _ _)
  clear h
  go_enter Tryd.func12, Tryd.ntmps12
  go_wp2_with fail
  refine (HC.out _ HT0.out.box).mono ?_
  rintro e w1 ⟨rfl, rfl⟩
  go_wp2_with fail
  refine (values_any _ _).mono ?_
  rintro e w2 ⟨rfl, rfl⟩
  have hb1 : Below w1.heap.size w1 (w1.alloc (.cells #[.map (some mi)] 50)) := (Below.refl _ _).alloc (Nat.le_refl _) _
  have HB1 := Lib.hid hb1
  have HCOL := Lib.hid (collect_any w1.heap.size mi n w1.heap.size Di (w1.alloc (.cells #[.map (some mi)] 50)) (by simp) (by rw [cell_of_blk (heap_alloc_new w1 _) 0]; rfl) (by simp) (HK.out _ hb1).2.2.1 (by have := HSZ.out.1; omega))
  generalize w1.alloc (.cells #[.map (some mi)] 50) = w2 at *
  clear hb1 k0
  go_wp2_with fail
  refine HCOL.out.mono ?_
  rintro e w3 ⟨xi, ai, ci, hvi, rfl, hri, hbi⟩
  have HB3 := Lib.hid (HB1.out.trans hbi)
  have HRI := Lib.hid (And.intro hvi hri)
  obtain ⟨_, k1, _, _⟩ := HK.out w3 HB3.out
  clear hvi hri hbi
  go_wp2_with fail
  refine (values_any _ _).mono ?_
  rintro e w4 ⟨rfl, rfl⟩
  have hb4 : Below w1.heap.size w1 (w3.alloc (.cells #[.map (some mp)] 50)) := HB3.out.alloc HB3.out.size _
  have HB4 := Lib.hid hb4
  have HAPP := Lib.hid (appendRow_any w3.heap.size mp n w1.heap.size Dp ai ci xi (w3.alloc (.cells #[.map (some mp)] 50)) hb4.size (by rw [cell_of_blk (heap_alloc_new w3 _) 0]; rfl) (by simp) (HK.out _ hb4).2.2.2 (HRI.out.2.alloc _) (by have := HSZ.out.1; have := HSZ.out.2; have := HV.out _ _ HRI.out.1; omega))
  generalize w3.alloc (.cells #[.map (some mp)] 50) = w4 at *
  clear hb4 k1
  go_wp2_with fail
  refine HAPP.out.mono ?_
  rintro e w5 ⟨xp, ap, cp, hvp, rfl, hrp, hbp⟩
  have HB5 := Lib.hid (HB4.out.trans hbp)
  have HLEN : Hid ((xi ++ xp).length ≤ 1000000) := Lib.hid (by rw [List.length_append, HV.out _ _ HRI.out.1, HV.out _ _ hvp]; have := HSZ.out.1; have := HSZ.out.2; omega)
  have HVP := Lib.hid hvp
  have HHD := Lib.hid (fun g e => (hrp.head g e).2.1)
  have HS := Lib.hid (sort_any hrp HLEN.out)
  clear hvp hrp hbp HAPP HCOL
  generalize hz : xi ++ xp = zs at *
  have HZ := Lib.hid hz
  clear hz
  go_wp2_with fail
  refine HS.out.mono ?_
  rintro e w6 ⟨rfl, ys, hp, hs, hr, ho⟩
  have HR := Lib.hid (And.intro hp (And.intro hs (And.intro hr ho)))
  clear hp hs hr ho
  go_wp2_with fail
  go_ret
  obtain ⟨hp, hs, hr, ho⟩ := HR.out
  refine ⟨ys, ap, cp, by rw [hp.length_eq]; rfl, ⟨⟨xi, xp, HRI.out.1, HVP.out, by rw [HZ.out]; exact hp⟩, hs⟩, hr, ?_⟩
  refine (Only.of_below HB5.out (fun _ => False)).trans ho ?_
  rintro k hk ⟨g, hg, rfl⟩
  have := HHD.out g hg
  omega
end Go.Proofs.YtodgjkdhkohckaaDoor.opers
