/- Tokens: whether all signs of a name belong; whether a name may stand as it is. -/
import Derived.Test.YtodgjkdhkohckaaDoorTok1
namespace Go.Proofs.YtodgjkdhkohckaaDoor.toks
open Go.RowKit Go.Proofs.YtodgjkdhkohckaaDoor.own
def allB (g : Int → Bool) (s : ByteArray) : Bool := s.data.toList.all (fun b => g (b.toNat : Int))
theorem take_all_next (g : Int → Bool) (s : ByteArray) (pos : Nat) (h : pos < s.size) (ht : (s.data.toList.take pos).all (fun b => g (b.toNat : Int)) = true) (hb : g ((s[pos]'h).toNat : Int) = true) : (s.data.toList.take (pos + 1)).all (fun b => g (b.toNat : Int)) = true := by
  have hl : pos < s.data.toList.length := by simpa using h
  have hx : s.data.toList[pos]? = some (s[pos]'h) := by
    rw [List.getElem?_eq_getElem hl]
    simp [ByteArray.getElem_eq_getElem_data]
  rw [List.take_add_one, hx]
  simp [List.all_append, ht, hb]
theorem allB_no (g : Int → Bool) (s : ByteArray) (pos : Nat) (h : pos < s.size) (hb : g ((s[pos]'h).toNat : Int) = false) : allB g s = false := by
  have hl : pos < s.data.toList.length := by simpa using h
  have hx : s.data.toList[pos]'hl = (s[pos]'h) := by
    simp [ByteArray.getElem_eq_getElem_data]
  unfold allB
  rw [List.all_eq_false]
  exact ⟨s.data.toList[pos]'hl, List.getElem_mem hl, by rw [hx, hb]; simp⟩
theorem Only.iter (w : World) (s : ByteArray) (pos : Nat) : Only (fun _ => False) w (w.iter s pos) := Only.alloc _ _ _
set_option maxRecDepth 100000 in
set_option maxHeartbeats 2000000 in
theorem every_any (K : Nat) (g : Int → Bool) (hg : ∀ c : Int, 128 ≤ c → g c = false) (hK : ∀ (c : Int) (W : World), Calls Tryd.prog K #[.int .i32 c] W fun e w' => e = .returned (.bool (g c)) ∧ w' = W)
    (hE : ∀ args w, (callFunc K args).run Tryd.prog w = .ok (.enter K args) w) (s : ByteArray) (w : World) :
    Calls Tryd.prog 75 #[.string s, .func (.func K) #[] #[]] w fun e w' => e = .returned (.bool (allB g s)) ∧ ∃ pos, w' = w.iter s pos := by
  have HG := Lib.hid hg
  have HK := Lib.hid hK
  clear hg hK
  go_enter Tryd.func75, Tryd.ntmps75
  go_wp2_with fail
  go_loopw [6] (fun c wr => ∃ pos : Nat, wr = w.iter s pos ∧ pos ≤ s.size ∧ Hid ((s.data.toList.take pos).all (fun b => g (b.toNat : Int)) = true)) (fun _ wr => s.size - wr.iterPos w.heap.size)
  case atStart => exact ⟨0, rfl, by omega, Lib.hid (by simp)⟩
  case round =>
    obtain ⟨pos, rfl, hp, hR⟩ := hrel
    by_cases hlt : pos < s.size
    · have hnx : ∀ ty, (Instr.next (.pointer (some ⟨w.heap.size, 0, none⟩)) true ty).run Tryd.prog (w.iter s pos) = _ := fun ty => run_next_any w s pos ty hlt
      have hdec : Hid ((g ((Utf8.decode s pos).1 : Int) = true → (Utf8.decode s pos).2 = 1 ∧ ((Utf8.decode s pos).1 : Int) = ((s[pos]'hlt).toNat : Int)) ∧ (g ((Utf8.decode s pos).1 : Int) = false → allB g s = false)) := Lib.hid (by
        by_cases ha : (s[pos]'hlt).toNat < 128
        · rw [decode_ascii s pos hlt ha]
          exact ⟨fun _ => ⟨rfl, rfl⟩, fun h => allB_no g s pos hlt h⟩
        · obtain ⟨h1, h2⟩ := decode_high s pos hlt (by omega)
          refine ⟨fun h => ?_, fun _ => allB_no g s pos hlt (HG.out _ (by omega))⟩
          rw [HG.out _ (by omega)] at h
          cases h)
      generalize Utf8.decode s pos = dc at *
      go_wp2_with fail
      refine (HK.out _ _).mono ?_
      rintro e w1 ⟨rfl, rfl⟩
      cases hgc : g (dc.1 : Int) with
      | true =>
        obtain ⟨h2, h1⟩ := hdec.out.1 hgc
        have HN : Hid ((s.data.toList.take (pos + 1)).all (fun b => g (b.toNat : Int)) = true) := Lib.hid (take_all_next g s pos hlt hR.out (by rw [← h1]; exact hgc))
        clear hdec
        go_wp2_with fail
        go_roundw
        case rel => exact ⟨pos + 1, by first | rfl | rw [h2], by omega, HN⟩
        case measure =>
          simp
          omega
      | false =>
        have hN := hdec.out.2 hgc
        have HN := Lib.hid hN
        clear hdec hN
        go_wp2_with fail
        go_ret
        exact ⟨by rw [HN.out]; rfl, _, rfl⟩
    · have hnx : ∀ ty, (Instr.next (.pointer (some ⟨w.heap.size, 0, none⟩)) true ty).run Tryd.prog (w.iter s pos) = _ := fun ty => run_next_end w s pos ty hlt
      have HA : Hid (allB g s = true) := Lib.hid (by
        have h := hR.out
        rw [List.take_of_length_le (by simp; omega)] at h
        exact h)
      go_wp2_with fail
      go_ret
      exact ⟨by rw [HA.out]; rfl, _, rfl⟩
end Go.Proofs.YtodgjkdhkohckaaDoor.toks
