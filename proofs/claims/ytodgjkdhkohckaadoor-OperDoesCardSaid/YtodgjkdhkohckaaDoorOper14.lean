/- Operators: a fork. -/
import Derived.Test.YtodgjkdhkohckaaDoorOper13
namespace Go.Proofs.YtodgjkdhkohckaaDoor.opers
open Go.RowKit Go.Proofs.YtodgjkdhkohckaaDoor.own Go.Maps Go.Proofs.YtodgjkdhkohckaaDoor.toks
theorem mclone_any {m n : Nat} {D : D1} {W : World} (h : OMap W m n D) : Calls Tryd.prog 49 #[.map (some m)] W fun e w' => e = .returned (.map (some W.heap.size)) ∧ OMap w' W.heap.size n D ∧ Only (fun _ => False) W w' :=
  (AnyW.maps_Clone_owns Tryd.laysClone 9 opR m n D W h).mono fun _ _ ⟨he, h1, _, hb⟩ => ⟨he, h1, Only.of_below hb _⟩
theorem Tb.forked {b mi mp n a1 a2 : Nat} {Di Dp : D1} {w w1 : World} (h1 : OMap w1 a1 n Di) (h2 : OMap w1 a2 n Dp) (hne : a1 ≠ a2) : Tb w1.heap.size a1 a2 n n Di Dp (w1.alloc (.cells #[.map (some a1), .map (some a2)] 52)) :=
  ⟨heap_alloc_new _ _, map_only h1 (Only.alloc (fun _ => False) _ _) (fun e => e), map_only h2 (Only.alloc (fun _ => False) _ _) (fun e => e), hne⟩
set_option maxRecDepth 100000 in
set_option maxHeartbeats 2000000 in
theorem fork_any {b mi mp n : Nat} {Di Dp : D1} {w : World} (h : Tb b mi mp n n Di Dp w) : Calls Tryd.prog 27 #[.pointer (some ⟨b, 0, none⟩)] w fun e w' => ∃ b2 mi2 mp2, e = .returned (.pointer (some ⟨b2, 0, none⟩)) ∧ Tb b2 mi2 mp2 n n Di Dp w' ∧ Only (fun _ => False) w w' ∧ w.heap.size ≤ b2 ∧ w.heap.size ≤ mi2 ∧ w.heap.size ≤ mp2 := by
  have HT0 := Lib.hid h
  have HC : Hid (∀ W, BoxT b mi mp W → Calls Tryd.prog 30 #[.pointer (some ⟨b, 0, none⟩)] W fun e w' => e = .returned (.bool false) ∧ w' = W) := Lib.hid (closed_any b mi mp)
  have HK : Hid (∀ W, Only (fun _ => False) w W → W.cell? ⟨b, 0, none⟩ = some (.map (some mi)) ∧ W.cell? ⟨b, 1, none⟩ = some (.map (some mp))) := Lib.hid (fun W ho => by
    have hb := (h.later ho).box
    exact ⟨cell_of_blk hb 0, cell_of_blk hb 1⟩)
  have HA : Hid (Only (fun _ => False) w w.drew) := Lib.hid (Only.drew _ _)
  have HB : Hid (Only (fun _ => False) w w.drew) := Lib.hid (Only.drew _ _)
  clear h
  go_enter Tryd.func27, Tryd.ntmps27
  go_wp2_with fail
  refine (HC.out _ HT0.out.box).mono ?_
  rintro e w1 ⟨rfl, rfl⟩
  go_wp2_with fail
  go_region_held3 (fun w' => w'.cell? ⟨b, 0, none⟩ = some (.map (some mi)) ∧ w'.cell? ⟨b, 1, none⟩ = some (.map (some mp))) (first | exact HK.out _ HA.out | go_keep) (first
    | (go_at_call 49; refine (mclone_any (HT0.out.later HA.out).i).mono ?_; rintro e wx ⟨rfl, hm, ho⟩; have HI := Lib.hid hm; have HIo := Lib.hid ho; have HA := Lib.hid (HA.out.same ho); clear hm ho)
    | (go_at_call 49; refine (mclone_any (HT0.out.later HA.out).p).mono ?_; rintro e wy ⟨rfl, hm, ho⟩; have HP := Lib.hid hm; have HPo := Lib.hid ho; have HA := Lib.hid (HA.out.same ho); clear hm ho))
  have hI : OMap wx w1.heap.size n Di := HI.out
  have hlt : w1.heap.size < wx.heap.size := hI.lt
  have ht := Tb.forked (b := b) (mi := mi) (mp := mp) (w := w1) (map_only hI HPo.out (fun e => e)) HP.out (by omega)
  have HF := Lib.hid ht
  have ho2 : Only (fun _ => False) w1 (wy.alloc (.cells #[.map (some w1.heap.size), .map (some wx.heap.size)] 52)) := HA.out.same (Only.alloc _ _ _)
  have HO2 := Lib.hid ho2
  have hle : w1.heap.size ≤ wy.heap.size := HA.out.size
  have HL := Lib.hid (And.intro hle (Nat.le_of_lt hlt))
  clear ht ho2 hle hlt hI
  go_wp2_with fail
  go_ret
  exact ⟨_, _, _, rfl, HF.out, HO2.out, HL.out.1, Nat.le_refl _, HL.out.2⟩
end Go.Proofs.YtodgjkdhkohckaaDoor.opers
