/- Operators: the reference's Set, whole. -/
import Derived.Test.YtodgjkdhkohckaaDoorOper37
import Derived.Test.YtodgjkdhkohckaaDoorOper38
import Derived.Test.YtodgjkdhkohckaaDoorOper39
namespace Go.Proofs.YtodgjkdhkohckaaDoor.opers
open Go.RowKit Go.Proofs.YtodgjkdhkohckaaDoor.own Go.Maps Go.Sort Go.Shelf Go.Proofs.YtodgjkdhkohckaaDoor.toks
/-- The list behind a Set. -/
def nowL (l : List Op3) (p k : Int) (s : ByteArray) : List Op3 := if setRE l p k s = 0 then setL l p k s else l
theorem rset_any (B b : Nat) (ao : Option Addr) (cap : Nat) (l : List Op3) (p k : Int) (s : ByteArray) (w : World) (h : RT B b ao cap l w) (hs : s.size ≤ 1000000) (hn : l.length ≤ 100000) : Calls Tryd.prog 40 #[.pointer (some ⟨b, 0, none⟩), .agg #[.int .i64 p, .int .i64 k, .string s]] w fun e w' => e = .returned (.int .i64 (setRE l p k s)) ∧ (∃ ao' cap', RT B b ao' cap' (nowL l p k s) w' ∧ NewRow w.heap.size ao ao') ∧ Only (RS b ao) w w' := by
  have hno : ∀ v : Int, v ≠ 0 → setRE l p k s = v → ∀ w', Only (fun _ => False) w w' → (∃ ao' cap', RT B b ao' cap' (nowL l p k s) w' ∧ NewRow w.heap.size ao ao') ∧ Only (RS b ao) w w' := fun v hv e w' ho => by
    unfold nowL
    rw [if_neg (by rw [e]; exact hv)]
    exact ⟨⟨ao, cap, h.later ho, NewRow.refl _ _⟩, ho.mono (fun _ _ e => e.elim)⟩
  by_cases h1 : p < 0
  · have he : setRE l p k s = 1 := by unfold setRE; rw [if_pos h1]
    refine (rset_arg b p k s w (.inl h1)).mono ?_
    rintro e w' ⟨rfl, ho⟩
    exact ⟨by rw [he], hno 1 (by decide) he w' ho⟩
  by_cases h2 : p > 1200
  · have he : setRE l p k s = 1 := by unfold setRE; rw [if_neg h1, if_pos h2]
    refine (rset_arg b p k s w (.inr (.inl ⟨h1, h2⟩))).mono ?_
    rintro e w' ⟨rfl, ho⟩
    exact ⟨by rw [he], hno 1 (by decide) he w' ho⟩
  cases h3 : isTypeF k with
  | false =>
    have he : setRE l p k s = 1 := by unfold setRE; rw [if_neg h1, if_neg h2, if_pos h3]
    refine (rset_arg b p k s w (by rcases type_no h3 with h | h; exact .inr (.inr (.inl ⟨h1, h2, h⟩)); exact .inr (.inr (.inr ⟨h1, h2, h⟩)))).mono ?_
    rintro e w' ⟨rfl, ho⟩
    exact ⟨by rw [he], hno 1 (by decide) he w' ho⟩
  | true =>
    cases h4 : maysetB s with
    | false =>
      have he : setRE l p k s = 90 := by unfold setRE; rw [if_neg h1, if_neg h2, if_neg (by rw [h3]; decide), if_pos h4]
      refine (rset_name b p k s w h1 h2 h3 h4 hs).mono ?_
      rintro e w' ⟨rfl, ho⟩
      exact ⟨by rw [he], hno 90 (by decide) he w' ho⟩
    | true =>
      have hb : setRE l p k s = if 0 < p then (if l.any (keyB s (isPreF k)) = true then 0 else if 64 ≤ l.length then 2 else 0) else if l.any (keyB s (isPreF k)) = true then 0 else 4 := by
        unfold setRE
        rw [if_neg h1, if_neg h2, if_neg (by rw [h3]; decide), if_neg (by rw [h4]; decide)]
      by_cases hp : 0 < p
      · rw [if_pos hp] at hb
        cases h6 : l.any (keyB s (isPreF k)) with
        | true =>
          have he : setRE l p k s = 0 := by rw [hb, if_pos h6]
          obtain ⟨i, hi1, hi2, hi3⟩ := atR_yes h6
          have hl : nowL l p k s = l.set i ⟨p, k, s⟩ := by unfold nowL setL; rw [if_pos he, hi3]; simp [hp]
          rw [he, hl]
          exact rset_put B b ao cap l p k s w h hp h2 h3 h4 i hi1 hi2 hn
        | false =>
          rw [if_neg (by rw [h6]; decide)] at hb
          by_cases h9 : 64 ≤ l.length
          · have he : setRE l p k s = 2 := by rw [hb, if_pos h9]
            refine (rset_full B b ao cap l p k s w h hp h2 h3 h4 h6 h9 hn).mono ?_
            rintro e w' ⟨rfl, ho⟩
            exact ⟨by rw [he], hno 2 (by decide) he w' ho⟩
          · have he : setRE l p k s = 0 := by rw [hb, if_neg h9]
            have hl : nowL l p k s = l ++ [⟨p, k, s⟩] := by
              unfold nowL setL
              rw [if_pos he, List.findIdx?_eq_none_iff.2 (fun x hx => by rw [List.any_eq_false] at h6; simpa using h6 x hx)]
              simp [hp]
            rw [he, hl]
            exact rset_new B b ao cap l p k s w h hp h2 h3 h4 h6 (by omega) hn
      · rw [if_neg hp] at hb
        obtain rfl : p = 0 := by omega
        cases h6 : l.any (keyB s (isPreF k)) with
        | true =>
          have he : setRE l 0 k s = 0 := by rw [hb, if_pos h6]
          obtain ⟨i, hi1, hi2, hi3⟩ := atR_yes h6
          have hl : nowL l 0 k s = l.eraseIdx i := by unfold nowL setL; rw [if_pos he, hi3]; simp
          rw [he, hl]
          exact rset_out B b ao cap l k s w h h3 h4 i hi1 hi2 hn
        | false =>
          have he : setRE l 0 k s = 4 := by rw [hb, if_neg (by rw [h6]; decide)]
          refine (rset_none B b ao cap l k s w h h3 h4 h6 hn).mono ?_
          rintro e w' ⟨rfl, ho⟩
          exact ⟨by rw [he], hno 4 (by decide) he w' ho⟩
theorem Rel.now {Di Dp : D1} {l : List Op3} (h : Rel Di Dp l) (hlen : l.length = Maps.size Di + Maps.size Dp) (p k : Int) (s : ByteArray) : Rel (setI Di Dp p k s) (setP Di Dp p k s) (nowL l p k s) ∧ setRE l p k s = setE Di Dp p k s := by
  have he := h.err hlen p k s
  refine ⟨?_, he⟩
  unfold nowL
  by_cases h0 : setE Di Dp p k s = 0
  · rw [if_pos (by rw [he]; exact h0)]
    exact h.set h0
  · rw [if_neg (by rw [he]; exact h0), setI_no h0, setP_no h0]
    exact h
end Go.Proofs.YtodgjkdhkohckaaDoor.opers
