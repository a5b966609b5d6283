/- Contracts of the law's own counting room: Grow, Same. -/
import Derived.Test.YtghegbdnecobkaaRoom9
namespace Go.Proofs.Ytghegbdnecobkaa.rooms
open Go.RowKit

def GrowR (B b n : Nat) (ao : Option Addr) (xs : List Int) (lim most : Int) (w wr : World) : Prop := ∃ ao' cap', RefP B b ao' cap' (xs ++ List.replicate n 0) lim most wr ∧ Only (Mine b ao) w wr ∧ NewRow w.heap.size ao ao'

theorem mine_new {N b : Nat} {ao ao' : Option Addr} (hn : NewRow N ao ao') {j : Nat} (h : Mine b ao' j) : Mine b ao j ∨ N ≤ j := by
  rcases h with rfl | ⟨g, hg, rfl⟩
  · exact .inl (.inl rfl)
  · rcases hn g hg with h1 | h1
    · exact .inl (.inr ⟨g, h1, rfl⟩)
    · exact .inr h1
theorem Only.mine_next {b : Nat} {ao ao' : Option Addr} {w w1 w2 : World} (h : Only (Mine b ao) w w1) (hn : NewRow w.heap.size ao ao') (h' : Only (Mine b ao') w1 w2) : Only (Mine b ao) w w2 :=
  h.trans h' (fun j hj hm => by
    rcases mine_new hn hm with h1 | h1
    · exact h1
    · omega)

theorem GrowR.step {B b k : Nat} {ao ao1 ao2 : Option Addr} {cap1 cap2 : Nat} {xs : List Int} {lim most : Int} {w wr w2 : World} (hr : RefP B b ao1 cap1 (xs ++ List.replicate k 0) lim most wr) (ho : Only (Mine b ao) w wr) (hn : NewRow w.heap.size ao ao1)
    (hrow : Row 31 B ao2 cap2 (xs ++ List.replicate k 0 ++ [0]) w2) (ho2 : Only (RowAt ao1) wr w2) (hn2 : NewRow wr.heap.size ao1 ao2) :
    GrowR B b (k + 1) ao xs lim most w (w2.setCell ⟨b, 0, none⟩ (.slice ao2 (xs ++ List.replicate k 0 ++ [0]).length cap2)) := by
  have o3 : Only (· = b) w2 (w2.setCell ⟨b, 0, none⟩ (.slice ao2 (xs ++ List.replicate k 0 ++ [0]).length cap2)) := Only.setCell (S := (· = b)) w2 (p := ⟨b, 0, none⟩) rfl _
  have e : xs ++ List.replicate k (0 : Int) ++ [0] = xs ++ List.replicate (k + 1) 0 := by rw [List.append_assoc]; congr 1; exact List.replicate_succ'.symm
  have hroom := IsRoom.behind (blk_set (ref_blk_grown hr ho2) 0 (.slice ao2 (xs ++ List.replicate k 0 ++ [0]).length cap2)) hrow o3 hr.low (hr.other_new hr.lt hn2)
  rw [e] at hroom ⊢
  rw [e] at o3
  exact ⟨ao2, cap2, hroom, ho.mine_next hn (ho2.rowAt.same o3.struct), hn.trans hn2 ho.size⟩

theorem rgrow_some {B b : Nat} {ao : Option Addr} {cap : Nat} {xs : List Int} {lim most : Int} {w : World} (n : Nat) (h : RefP B b ao cap xs lim most w) (hf : (n : Int) ≤ lim - (xs.length : Int)) (hl2 : lim ≤ 1048576) (hb : xs.length ≤ 1048576) :
    Calls Try.prog 29 #[.pointer (some ⟨b, 0, none⟩), .int .i64 n] w fun e w' => e = .returned (.int .i64 0) ∧
      ∃ ao' cap', RefP B b ao' cap' (xs ++ List.replicate n 0) lim (max most ((xs ++ List.replicate n 0).length : Nat)) w' ∧ Only (Mine b ao) w w' ∧ NewRow w.heap.size ao ao' := by
  obtain ⟨i0, hi, hz0, hz1, hz2⟩ := info_parts info64
  have c0 := h.c0
  have c1 := h.c1
  have H := Lib.hid h
  clear h
  go_enter Try.func29, Try.ntmps29
  go_wp2_with fail
  go_quiet (fail)
  have HG0 : Hid (GrowR B b 0 ao xs lim most w (w.drewN nq)) := ⟨ao, cap, by simpa using H.out.drewN nq, Only.drewN _ _ _, NewRow.refl _ _⟩
  generalize w.drewN nq = w1 at *
  clear c0 c1
  go_wp2_with fail
  go_loopw [5] (fun i wr => ∃ k : Nat, i = .int .i64 k ∧ k ≤ n ∧ Hid (GrowR B b k ao xs lim most w wr)) (fun i _ => n - (intOf i).toNat)
  case atStart => exact ⟨0, rfl, by omega, HG0⟩
  case round =>
    obtain ⟨k, rfl, hk, hR⟩ := hrel
    obtain ⟨ao1, cap1, hr1, ho1, hn1⟩ := hR.out
    have HR := Lib.hid hr1
    have HO := Lib.hid ho1
    have HN := Lib.hid hn1
    have c0 := hr1.c0
    have f0 := hr1.fz 0
    have hlen : (xs ++ List.replicate k (0 : Int)).length = xs.length + k := by simp
    have hle : (xs ++ List.replicate k (0 : Int)).length ≤ 1048576 := by omega
    clear hr1 ho1 hn1 hR HG0 H
    generalize hys : xs ++ List.replicate k (0 : Int) = ys at *
    have HY := Lib.hid hys
    clear hys
    by_cases hkn : k < n
    · clear hlen
      go_wp2_with (at_builtin; refine wp_append_word rfl (.tmp 29) (.tmp 30) 35 rfl B 31 i0 Try.underlying35 hi hz0 hz1 hz2 wr ao1 cap1 ys 0 rfl HR.out.row rfl hle (Nat.le_trans HR.out.low (Nat.le_of_lt HR.out.lt)) ?_; intro ao2 cap2 w2 hrow2 honly2 hnew2; have HB2 := Lib.hid (ref_blk_grown HR.out honly2); have c0 := cell_of_blk HB2.out 0; have f0 := free_of_blk HB2.out 0; have HF := Lib.hid (show GrowR B b (k + 1) ao xs lim most w (w2.setCell ⟨b, 0, none⟩ (.slice ao2 (ys ++ [0]).length cap2)) by have h1 := HR.out; have h2 := hrow2; rw [← HY.out] at h1 h2 ⊢; exact GrowR.step h1 HO.out HN.out h2 honly2 hnew2); clear hrow2 honly2 hnew2)
      go_roundw
      case rel => exact ⟨k + 1, by go_num, by omega, Lib.hid (by have h := HF.out; simpa using h)⟩
      case measure => simp [intOf]; omega
    · obtain rfl : k = n := by omega
      go_wp2_with fail
      refine (note_any HR.out.blk).mono ?_
      rintro e w4 ⟨rfl, ho4, hb4⟩
      have HB4 := Lib.hid hb4
      clear hb4
      go_wp2_with fail
      go_ret
      rw [HY.out]
      exact ⟨rfl, ao1, cap1, IsRoom.behind HB4.out HR.out.row ho4 HR.out.low HR.out.other, HO.out.mine_next HN.out ho4.struct, HN.out⟩

theorem same_yes {N M : Nat} {ao bo : Option Addr} {acap bcap : Nat} {xs : List Int} {w : World} (hA : Hid (Row 31 N ao acap xs w)) (hB : Hid (Row 31 M bo bcap xs w)) (hn : xs.length ≤ 1048576) :
    Calls Try.prog 15 #[.slice ao xs.length acap, .slice bo xs.length bcap] w fun e w' => e = .returned (.bool true) ∧ ∃ m, w' = w.drewN m := by
  go_enter Try.func15, Try.ntmps15
  go_wp2_with fail
  go_loopw [5] (fun i wr => ∃ k : Nat, i = .int .i64 k ∧ k ≤ xs.length ∧ Hid (∃ m, wr = w.drewN m)) (fun i _ => xs.length - (intOf i).toNat)
  case atStart => exact ⟨0, rfl, by omega, Lib.hid ⟨0, rfl⟩⟩
  case round =>
    obtain ⟨k, rfl, hk, hO⟩ := hrel
    obtain ⟨m, hm⟩ := hO.out
    have hO1 : Only (fun _ => False) w wr := by rw [hm]; exact Only.drewN _ _ _
    have HM := Lib.hid hm
    clear hm hO
    by_cases hkn : k < xs.length
    · obtain ⟨g1, rfl, hc1⟩ := (hA.out.only hO1 (fun _ _ e => e)).at k hkn
      obtain ⟨g2, rfl, hc2⟩ := (hB.out.only hO1 (fun _ _ e => e)).at k hkn
      generalize xs.getD k 0 = x at hc1 hc2
      clear hO1
      go_wp2_with fail
      go_quiet (fail)
      have hO2 : Hid (∃ m', wr.drewN nq = w.drewN m') := Lib.hid ⟨m + nq, by rw [HM.out, World.drewN_drewN]⟩
      generalize wr.drewN nq = w6 at *
      go_wp2_with fail
      go_roundw
      case rel => exact ⟨k + 1, by go_num, by omega, hO2⟩
      case measure => simp [intOf]; omega
    · obtain rfl : k = xs.length := by omega
      go_wp2_with fail
      go_ret
      exact ⟨rfl, m, HM.out⟩
end Go.Proofs.Ytghegbdnecobkaa.rooms
