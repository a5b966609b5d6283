/- May cells be given back? -/
import Derived.Test.YtaplfibhhdngbaaPool12
namespace Go.Proofs.Ytaplfibhhdngbaa.pools
open Go.RowKit Go.Proofs.Ytaplfibhhdngbaa.own Go.Proofs.Ytaplfibhhdngbaa.trees Go.Proofs.Ytaplfibhhdngbaa.rows
variable {Sm S : Nat → Prop} {B b k sz : Nat} {so : Option Addr} {scap : Nat} {ao : Option Addr} {cap : Nat} {T : List Int} {f : Nat → Nat} {lim : Nat} {F : List Bool} {St : List Nat} {w w' : World}
/-- The n cells from a on are there, of one segment, all of them taken. -/
def Taken (St : List Nat) (F : List Bool) (a n : Nat) : Prop := 1 ≤ n ∧ a < F.length ∧ (∃ s, Seg St a s ∧ a + n ≤ endOf St F s) ∧ ∀ j, a ≤ j → j < a + n → F.getD j false = false
theorem Seg.same {a s t : Nat} (h1 : Seg St a s) (h2 : Seg St a t) : s = t := by
  rcases Nat.lt_trichotomy s t with h | h | h
  · have := h1.gt t h h2.lt; have := h2.le; omega
  · exact h
  · have := h2.gt s h h1.lt; have := h1.le; omega
theorem taken_small (a n : Int) (hn : n < 1) (w : World) : Calls Try.prog 42 #[.pointer (some ⟨b, 0, none⟩), .int .i64 a, .int .i64 n] w fun e w' => e = .returned (.bool false) ∧ w = w' := by
  go_enter Try.func42, Try.ntmps42
  go_wp2_with fail
  go_ret
  exact ⟨rfl, rfl⟩
theorem taken_out (a n : Int) (hn : 1 ≤ n) (h : PoolAt Sm S B b k sz so scap ao cap T f lim F St w) (hout : ¬ (0 ≤ a ∧ a < (F.length : Int))) : Calls Try.prog 42 #[.pointer (some ⟨b, 0, none⟩), .int .i64 a, .int .i64 n] w fun e w' => e = .returned (.bool false) ∧ w = w' := by
  have HH := has_any h a
  rw [decide_eq_false hout] at HH
  have HH := Lib.hid HH
  have hn1 : ¬ n < 1 := by omega
  clear h hout hn
  go_enter Try.func42, Try.ntmps42
  go_wp2_with fail
  refine HH.out.mono ?_
  rintro e w1 ⟨rfl, rfl⟩
  go_wp2_with fail
  go_ret
  exact ⟨rfl, rfl⟩
set_option maxRecDepth 100000 in
set_option maxHeartbeats 4000000 in
theorem taken_in (a n : Nat) (hn : 1 ≤ n) (h : PoolAt Sm S B b k sz so scap ao cap T f lim F St w) (hin : a < F.length) : Calls Try.prog 42 #[.pointer (some ⟨b, 0, none⟩), .int .i64 a, .int .i64 n] w fun e w' => (∃ v, e = .returned (.bool v) ∧ (v = true ↔ Taken St F a n)) ∧ Only (fun _ => False) w w' := by
  have HH := has_any h (a : Int)
  rw [decide_eq_true (by omega)] at HH
  have HH := Lib.hid HH
  have H := Lib.hid h
  have HSg := Lib.hid (segment_in a h hin)
  have hn1 : ¬ ((n : Int) < 1) := by omega
  have hfew := h.few
  have hroom := h.room
  clear h
  go_enter Try.func42, Try.ntmps42
  go_wp2_with fail
  refine HH.out.mono ?_
  rintro e w1 ⟨rfl, rfl⟩
  go_wp2_with fail
  refine HSg.out.mono ?_
  rintro e w1 ⟨⟨s, rfl, hs⟩, q, rfl⟩
  have HS := Lib.hid hs
  have hsl := hs.lt
  have hend := H.out.end_gt hin hs
  have hendl := H.out.end_le s
  have H1 := Lib.hid (H.out.drewN q)
  have HO1 : Hid (Only (fun _ => False) w (w.drewN q)) := Lib.hid (Only.drewN _ _ _)
  clear hs
  generalize w.drewN q = w2 at *
  go_wp2_with fail
  refine (end_any s H1.out hsl).mono ?_
  rintro e w3 ⟨rfl, ho⟩
  have H2 := Lib.hid (H1.out.only ho)
  have HO2 := Lib.hid (HO1.out.same ho)
  clear ho HO1 H1
  have HT0 : Hid (endOf St F s < a + n → ¬ Taken St F a n) := Lib.hid (by
    rintro hlt ⟨_, _, ⟨t, ht, hle⟩, _⟩
    have := HS.out.same ht
    subst this
    omega)
  have HT1 : Hid (F.getD a false = true → ¬ Taken St F a n) := Lib.hid (by
    rintro hf ⟨_, _, _, hz⟩
    rw [hz a (by omega) (by omega)] at hf
    cases hf)
  generalize hE : endOf St F s = E at *
  have HE := Lib.hid hE
  clear hE
  by_cases hlt : (n : Int) > (E : Int) - (a : Int)
  · have HN := Lib.hid (HT0.out (by omega))
    go_wp2_with fail
    go_ret
    exact ⟨⟨false, rfl, by simp [HN.out]⟩, HO2.out⟩
  · have hfe : isFree F (a : Int) = F.getD a false := by unfold isFree; rw [if_pos (by omega)]; rfl
    have HFr := free_any (a : Int) H2.out
    rw [hfe] at HFr
    have HFr := Lib.hid HFr
    clear hfe
    go_wp2_with fail
    refine HFr.out.mono ?_
    rintro e w4 ⟨rfl, ho⟩
    have H3 := Lib.hid (H2.out.only ho)
    have HO3 := Lib.hid (HO2.out.same ho)
    clear ho H2 HO2 HFr
    cases hb : F.getD a false with
    | true =>
      have HN := Lib.hid (HT1.out hb)
      go_wp2_with fail
      go_ret
      exact ⟨⟨false, rfl, by simp [HN.out]⟩, HO3.out⟩
    | false =>
      have hsz : 0 < sz := by omega
      have HTk := Lib.hid (H3.out.inv.taken (a := a) (n := n) (by omega))
      go_wp2_with fail
      refine (first_f a 1 (H3.out.runsF hsz) (by omega) (by omega)).mono ?_
      rintro e w5 ⟨⟨r, rfl, hr⟩, rfl⟩
      rcases hr with ⟨rfl, hz⟩ | ⟨p, rfl, hp1, hp2, hp3⟩
      · have HF : Hid (Taken St F a n) := Lib.hid ⟨hn, hin, ⟨s, HS.out, by rw [HE.out]; omega⟩, HTk.out.2 ⟨hb, fun q g1 g2 => by have := hz q g1; omega⟩⟩
        clear hz
        go_wp2_with fail
        go_ret
        exact ⟨⟨true, rfl, by simp [HF.out]⟩, HO3.out⟩
      · have HF : Hid (((a : Int) + (n : Int) ≤ (p : Int)) ↔ Taken St F a n) := Lib.hid (by
          constructor
          · intro hle
            exact ⟨hn, hin, ⟨s, HS.out, by rw [HE.out]; omega⟩, HTk.out.2 ⟨hb, fun q g1 g2 => by have := hp3 q g1 (by omega); omega⟩⟩
          · rintro ⟨_, _, _, hz⟩
            rcases Nat.lt_or_ge p (a + n) with hl | hg
            · have := (HTk.out.1 hz).2 p hp1 hl
              omega
            · omega)
        have hpm : ((p : Int) == -1) = false := by simp
        clear hp3 hp2
        go_wp2_with fail
        go_ret
        exact ⟨⟨decide ((a : Int) + (n : Int) ≤ (p : Int)), by first | rfl | simp, by rw [decide_eq_true_iff]; exact HF.out⟩, HO3.out⟩
end Go.Proofs.Ytaplfibhhdngbaa.pools
