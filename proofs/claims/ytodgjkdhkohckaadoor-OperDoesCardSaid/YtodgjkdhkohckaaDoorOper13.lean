/- Operators: what Set does to a table, in plain words. -/
import Derived.Test.YtodgjkdhkohckaaDoorOper12
namespace Go.Proofs.YtodgjkdhkohckaaDoor.opers
open Go.RowKit Go.Proofs.YtodgjkdhkohckaaDoor.own Go.Maps Go.Proofs.YtodgjkdhkohckaaDoor.toks
theorem mayset_size {s : ByteArray} (h : maysetB s = true) : s.size ≤ 64 := by
  unfold maysetB at h
  simp only [Bool.and_eq_true, decide_eq_true_eq] at h
  omega
def SetIs (b mi mp n : Nat) (Di Dp : D1) (p k : Int) (s : ByteArray) (w : World) : Prop :=
  Calls Tryd.prog 24 #[.pointer (some ⟨b, 0, none⟩), .agg #[.int .i64 p, .int .i64 k, .string s]] w fun e w' => e = .returned (.int .i64 (setE Di Dp p k s)) ∧ Tb b mi mp (n + 1) (n + 1) (setI Di Dp p k s) (setP Di Dp p k s) w' ∧ Only (fun q => q = mi ∨ q = mp) w w'
theorem SetIs.same {b mi mp n : Nat} {Di Dp : D1} {p k : Int} {s : ByteArray} {w : World} (h : Tb b mi mp n n Di Dp w) (m : Int) (hE : setE Di Dp p k s = m) (hm : m ≠ 0)
    (hc : Calls Tryd.prog 24 #[.pointer (some ⟨b, 0, none⟩), .agg #[.int .i64 p, .int .i64 k, .string s]] w fun e w' => e = .returned (.int .i64 m) ∧ Only (fun _ => False) w w') : SetIs b mi mp n Di Dp p k s w := by
  unfold SetIs
  refine hc.mono ?_
  rintro e w' ⟨rfl, ho⟩
  have hne : setE Di Dp p k s ≠ 0 := by rw [hE]; exact hm
  rw [hE, setI_no hne, setP_no hne]
  exact ⟨rfl, (h.later ho).mono (by omega) (by omega), ho.mono (fun _ _ e => e.elim)⟩
theorem set_any {b mi mp n : Nat} {Di Dp : D1} {w : World} (h : Tb b mi mp n n Di Dp w) (p k : Int) (s : ByteArray) (hs : s.size ≤ maxLen) (hn : n ≤ 100000) : SetIs b mi mp n Di Dp p k s w := by
  by_cases h1 : p < 0
  · exact SetIs.same h 1 (by unfold setE; rw [if_pos h1]) (by decide) (set_neg h p k s h1)
  by_cases h2 : 1200 < p
  · exact SetIs.same h 1 (by unfold setE; rw [if_neg h1, if_pos h2]) (by decide) (set_big h p k s h1 h2)
  cases h3 : isTypeF k with
  | false => exact SetIs.same h 1 (by unfold setE; rw [if_neg h1, if_neg h2, if_pos h3]) (by decide) (set_type h p k s h1 h2 h3)
  | true =>
  have e3 : ¬ isTypeF k = false := by rw [h3]; decide
  cases h4 : maysetB s with
  | false => exact SetIs.same h 90 (by unfold setE; rw [if_neg h1, if_neg h2, if_neg e3, if_pos h4]) (by decide) (set_name h p k s h1 h2 h3 h4)
  | true =>
  have e4 : ¬ maysetB s = false := by rw [h4]; decide
  have h64 := mayset_size h4
  by_cases h5 : 0 < p
  · cases h6 : Maps.has (sideD k Di Dp) (keyN s) with
    | true =>
      have hE : setE Di Dp p k s = 0 := by unfold setE; rw [if_neg h1, if_neg h2, if_neg e3, if_neg e4, if_pos h5, if_pos h6]
      cases hk : isPreF k with
      | true =>
        have eI : setI Di Dp p k s = Di := by unfold setI; rw [if_pos hE, if_pos hk]
        have eP : setP Di Dp p k s = Dp.put (keyN s) (opD p k s) := by unfold setP newD; rw [if_pos hE, if_pos hk, if_pos h5]
        unfold SetIs
        rw [hE, eI, eP]
        exact set_putPY h p k s h1 h2 h3 h4 hs hn h64 hk h5 h6
      | false =>
        have ek : ¬ isPreF k = true := by rw [hk]; decide
        have eI : setI Di Dp p k s = Di.put (keyN s) (opD p k s) := by unfold setI newD; rw [if_pos hE, if_neg ek, if_pos h5]
        have eP : setP Di Dp p k s = Dp := by unfold setP; rw [if_pos hE, if_neg ek]
        unfold SetIs
        rw [hE, eI, eP]
        exact set_putIY h p k s h1 h2 h3 h4 hs hn h64 hk h5 h6
    | false =>
      have e6 : ¬ Maps.has (sideD k Di Dp) (keyN s) = true := by rw [h6]; decide
      by_cases h7 : 64 ≤ Maps.size Di + Maps.size Dp
      · exact SetIs.same h 2 (by unfold setE; rw [if_neg h1, if_neg h2, if_neg e3, if_neg e4, if_pos h5, if_neg e6, if_pos h7]) (by decide) (set_full h p k s h1 h2 h3 h4 hs hn h5 h6 h7)
      · have hE : setE Di Dp p k s = 0 := by unfold setE; rw [if_neg h1, if_neg h2, if_neg e3, if_neg e4, if_pos h5, if_neg e6, if_neg h7]
        cases hk : isPreF k with
        | true =>
          have eI : setI Di Dp p k s = Di := by unfold setI; rw [if_pos hE, if_pos hk]
          have eP : setP Di Dp p k s = Dp.put (keyN s) (opD p k s) := by unfold setP newD; rw [if_pos hE, if_pos hk, if_pos h5]
          unfold SetIs
          rw [hE, eI, eP]
          exact set_putPN h p k s h1 h2 h3 h4 hs hn h64 hk h5 h6 (by omega)
        | false =>
          have ek : ¬ isPreF k = true := by rw [hk]; decide
          have eI : setI Di Dp p k s = Di.put (keyN s) (opD p k s) := by unfold setI newD; rw [if_pos hE, if_neg ek, if_pos h5]
          have eP : setP Di Dp p k s = Dp := by unfold setP; rw [if_pos hE, if_neg ek]
          unfold SetIs
          rw [hE, eI, eP]
          exact set_putIN h p k s h1 h2 h3 h4 hs hn h64 hk h5 h6 (by omega)
  · cases h6 : Maps.has (sideD k Di Dp) (keyN s) with
    | false =>
      have e6 : ¬ Maps.has (sideD k Di Dp) (keyN s) = true := by rw [h6]; decide
      exact SetIs.same h 4 (by unfold setE; rw [if_neg h1, if_neg h2, if_neg e3, if_neg e4, if_neg h5, if_neg e6]) (by decide) (set_none h p k s h1 h2 h3 h4 hs hn h5 h6)
    | true =>
      have hE : setE Di Dp p k s = 0 := by unfold setE; rw [if_neg h1, if_neg h2, if_neg e3, if_neg e4, if_neg h5, if_pos h6]
      unfold SetIs
      refine (set_out h p k s h1 h2 h3 h4 hs hn h5 h6).mono ?_
      rintro e w' ⟨rfl, hm, ho⟩
      have hbx := map_ne h.i h.box
      have hbp := map_ne h.p h.box
      cases hk : isPreF k with
      | true =>
        have eI : setI Di Dp p k s = Di := by unfold setI; rw [if_pos hE, if_pos hk]
        have eP : setP Di Dp p k s = Dp.del (keyN s) := by unfold setP newD; rw [if_pos hE, if_pos hk, if_neg h5]
        unfold sideOf at hm ho
        unfold sideD at hm
        simp only [hk, if_true] at hm ho
        rw [hE, eI, eP]
        refine ⟨rfl, ⟨?_, ?_, hm.mono (by omega), h.ne⟩, ho.mono (fun q _ e => .inr e)⟩
        · unfold BoxT; rw [ho.block b (lt_of_block h.box) (fun e => hbp e.symm)]; exact h.box
        · exact map_only (h.i.mono (by omega)) ho h.ne
      | false =>
        have ek : ¬ isPreF k = true := by rw [hk]; decide
        have eI : setI Di Dp p k s = Di.del (keyN s) := by unfold setI newD; rw [if_pos hE, if_neg ek, if_neg h5]
        have eP : setP Di Dp p k s = Dp := by unfold setP; rw [if_pos hE, if_neg ek]
        unfold sideOf at hm ho
        unfold sideD at hm
        simp only [hk] at hm ho
        rw [hE, eI, eP]
        refine ⟨rfl, ⟨?_, hm.mono (by omega), ?_, h.ne⟩, ho.mono (fun q _ e => .inl e)⟩
        · unfold BoxT; rw [ho.block b (lt_of_block h.box) (fun e => hbx e.symm)]; exact h.box
        · exact map_only (h.p.mono (by omega)) ho (fun e => h.ne e.symm)
end Go.Proofs.YtodgjkdhkohckaaDoor.opers
