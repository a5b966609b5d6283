/- Clauses by generations: the law BaseEnds. -/
import Derived.Test.YthfilpacmllhpabBas25
namespace Go.Proofs.Ythfilpacmllhpab.bases
set_option maxRecDepth 100000
open Go.RowKit Go.Proofs.Ythfilpacmllhpab.own Go.Lib Go.Maps Go.WideMaps Go.Proofs.Ythfilpacmllhpab.idx Go.Proofs.Ythfilpacmllhpab.terms
/-- A list of truth values that came in. -/
def ArgL (ao : Option Addr) (l : List Bool) (w : World) : Prop := ∀ i x, l[i]? = some x → ∃ b off, ao = some ⟨b, off, none⟩ ∧ b < w.heap.size ∧ w.cell? ⟨b, off + i, none⟩ = some (.bool x)
theorem ArgL.cell {ao : Option Addr} {l : List Bool} {w W : World} (h : ArgL ao l w) (o : Only (fun _ => False) w W) {i : Nat} {x : Bool} (hi : l[i]? = some x) : ∃ b off, ao = some ⟨b, off, none⟩ ∧ b < w.heap.size ∧ W.cell? ⟨b, off + i, none⟩ = some (.bool x) := by
  obtain ⟨b, off, h1, h2, h3⟩ := h i x hi
  exact ⟨b, off, h1, h2, (o.cell (p := ⟨b, off + i, none⟩) h2 (fun e => e)).trans h3⟩
theorem Ee.later {b k : Nat} {told want : List Int} {ao : Option Addr} {cap : Nat} {w0 w w' : World} (h : Ee b k told want ao cap w0 w) (o : Only (fun _ => False) w w') : Ee b k told want ao cap w0 w' := by
  obtain ⟨pm, sl, ps, low, Q, h1, h2⟩ := h.ex
  exact ⟨⟨pm, sl, ps, low, Q, h1.later o, h2⟩, h.row.only o (fun _ _ e => e), h.len⟩
theorem sane_v : (T.mk 1 0 ⟨#[]⟩ []).Sane := sane_leaf _ _ _ (by unfold Fits; omega) (by unfold Fits; omega) (Nat.zero_le _)
set_option maxHeartbeats 16000000 in
theorem law_ends (a1 : Option Addr) (p1 : Nat) (l : List Bool) (w : World) (hA : ArgL a1 l w) (hm : l.length ≤ maxLen) :
    Calls Try.prog 5 #[.slice a1 l.length p1] w fun e w' => e = .returned (.bool true) ∧ Below w.heap.size w w' := by
  unfold maxLen at hm
  have HNW := Lib.hid (new_base 1000 w (by decide) (by decide))
  have HA := Lib.hid hA
  clear hA
  go_enter Try.func5, Try.ntmps5
  go_wp2_with fail
  refine HNW.out.mono ?_
  rintro e w1 ⟨rfl, hb1, ho1⟩
  have HE1 : Hid (Ee (w.heap.size + 1) 0 [] [] none 0 w w1) := Lib.hid ⟨⟨_, [], [], 0, _, Bs.new rfl rfl hb1 ho1, rfl, .inl rfl, rfl, by simp, fun g hg => by cases hg⟩, RowOf.nil _ _ _ _ _, rfl⟩
  clear hb1 ho1 HNW
  generalize w.heap.size + 1 = b at *
  go_wp2_with fail
  refine (lives_any _).mono ?_
  rintro e w2 ⟨rfl, ho⟩
  have HE := Lib.hid (HE1.out.later ho)
  clear ho HE1
  by_cases hl : l.length ≤ 100
  · have hgt : decide ((l.length : Int) > 100) = false := decide_eq_false (by omega)
    go_wp2_with fail
    go_loopw [5, 6] (fun s5 s6 wr => ∃ (k : Nat) (ao : Option Addr) (cap : Nat) (told : List Int), s5 = .slice ao k cap ∧ s6 = .int .i64 k ∧ k ≤ l.length ∧ Hid (Ee b k told told ao cap w wr)) (fun _ s6 _ => l.length - (RowKit.intOf s6).toNat)
    case atStart => exact ⟨0, none, 0, [], rfl, rfl, Nat.zero_le _, HE⟩
    case round =>
      obtain ⟨k, ao, cap, told, rfl, rfl, hk, hE⟩ := hrel
      by_cases hlt : k < l.length
      · obtain ⟨f, hf⟩ : ∃ f, l[k]? = some f := ⟨l[k], List.getElem?_eq_getElem hlt⟩
        obtain ⟨ab, off, hao, hab, q0⟩ := HA.out.cell hE.out.since hf
        have HQW : Hid (∀ W, Only (fun _ => False) w W → W.cell? ⟨ab, off + k, none⟩ = some (.bool f)) := Lib.hid (fun W o => by
          obtain ⟨ab', off', hao', _, h3⟩ := HA.out.cell o hf
          rw [hao] at hao'
          cases hao'
          exact h3)
        have HLN : Hid (told.length = k) := Lib.hid hE.out.len
        have HK : Hid (k < 100) := Lib.hid (by omega)
        subst hao
        clear hf
        have HAD : Hid (∀ (W W' : World) (ta : Option Addr) (tc : Nat), Only (fun _ => False) wr W → Only (fun _ => False) W W' → Row (fun q => W.heap.size ≤ q ∧ q < W'.heap.size) W' ta [.mk 1 0 ⟨#[]⟩ []] → Calls Try.prog 9 #[.pointer (some ⟨b, 0, none⟩), .agg #[.int .i64 4, .int .i64 0, .string ⟨#[112]⟩, .slice ta 1 tc, .slice none 0 0, .int .i64 0], .slice none 0 0, .bool f] W' fun e w' => e = .returned (.tuple #[.int .i64 k, .int .i64 0]) ∧ Ee b (k + 1) (addN f k told) told ao cap w w') := Lib.hid (fun W W' ta tc o o' hr => (hE.out.later o).add o' (by omega) ta tc hr f)
        have HQ : Hid (∀ W, Only (fun _ => False) wr W → W.cell? ⟨ab, off + k, none⟩ = some (.bool f)) := Lib.hid (fun W o => (o.cell (p := ⟨ab, off + k, none⟩) (Nat.lt_of_lt_of_le hab hE.out.since.size) (fun e => e)).trans q0)
        have HCM : Hid (∀ (W : World) (b : Nat), W.heap.size = b → _) := Lib.hid (fun W b hb => comp_p 1 0 (by exact sane_v) W b hb)
        clear q0
        go_upto_region 8 with fail
        go_cut [7, 8] (fun s7 s8 wx => s7 = .int .i64 k ∧ s8 = .int .i64 0 ∧ Hid (Ee b (k + 1) (addN f k told) told ao cap w wx))
        case first =>
          have q0 := HQ.out _ (Only.refl _ _)
          go_region_held3 (fun W => W.cell? ⟨ab, off + k, none⟩ = some (.bool f)) (with_reducible first | exact HQW.out _ HFIN.out.since | exact HQ.out _ HC3.out | exact HQ.out _ (HC3.out.same (Only.drew _ _)) | exact HQ.out _ HV3.out | exact HQ.out _ (HV3.out.same (Only.drew _ _)) | exact HQ.out _ (HV3.out.same (Only.alloc _ _ _)) | exact HQ.out _ ((HV3.out.same (Only.drew _ _)).same (Only.alloc _ _ _)) | exact HQ.out _ ((HV3.out.same (Only.alloc _ _ _)).same (Only.drew _ _)) | exact HQ.out _ (Only.drew _ _)) (first
            | (go_at_call 27; (refine (rvar_plain 0 _).mono ?_); rintro r u ⟨rfl, hou⟩; have HV3 : Hid (Only (fun _ => False) wr u) := Lib.hid (by first | exact hou | exact (Only.drew _ _).same hou | exact (Only.drewN _ _ _).same hou); clear hou)
            | (go_at_call 26; first
              | ((refine (HCM.out u _ rfl).mono ?_); rintro r u2 ⟨ta, tc, rfl, hr2, ho2⟩; have HC3 := Lib.hid (HV3.out.same ho2); have HR3 : Hid (∀ W, Only (fun _ => False) u2 W → Only (fun _ => False) u W ∧ Row (fun q => u.heap.size ≤ q ∧ q < W.heap.size) W ta [.mk 1 0 ⟨#[]⟩ []]) := Lib.hid (fun W o => ⟨ho2.same o, (hr2.only o (fun q hq => hq.2) (fun _ _ e => e)).mono (fun q hq => ⟨hq.1, Nat.lt_of_lt_of_le hq.2 o.size⟩)⟩); clear hr2 ho2)
              | ((refine (HCM.out u.drew _ rfl).mono ?_); rintro r u2 ⟨ta, tc, rfl, hr2, ho2⟩; have HC3 := Lib.hid ((HV3.out.same (Only.drew _ _)).same ho2); have HR3 : Hid (∀ W, Only (fun _ => False) u2 W → Only (fun _ => False) u W ∧ Row (fun q => u.heap.size ≤ q ∧ q < W.heap.size) W ta [.mk 1 0 ⟨#[]⟩ []]) := Lib.hid (fun W o => ⟨((Only.drew _ _).same ho2).same o, (hr2.only o (fun q hq => hq.2) (fun _ _ e => e)).mono (fun q hq => ⟨hq.1, Nat.lt_of_lt_of_le hq.2 o.size⟩)⟩); clear hr2 ho2))
            | (go_at_call 9; first
              | ((refine (HAD.out u u2 ta tc HV3.out (HR3.out _ (Only.refl _ _)).1 (HR3.out _ (Only.refl _ _)).2).mono ?_); rintro r u3 ⟨rfl, hfin⟩; have HFIN := Lib.hid hfin; clear hfin)
              | ((refine (HAD.out u u2.drew ta tc HV3.out (HR3.out _ (Only.drew _ _)).1 (HR3.out _ (Only.drew _ _)).2).mono ?_); rintro r u3 ⟨rfl, hfin⟩; have HFIN := Lib.hid hfin; clear hfin)))
          all_goals
            go_wp2_with fail
            go_meet
            exact ⟨rfl, rfl, HFIN⟩
        case rest =>
          obtain ⟨rfl, rfl, HF⟩ := hcut
          have q1 := HQW.out _ HF.out.since
          obtain ⟨i0, hi0, hz0, hz1, hz2⟩ := info_parts infoN
          clear hE HAD HQ HCM
          cases f with
          | true =>
            obtain ⟨WA, hWA⟩ : ∃ WA, WA = wc.alloc (.cells #[.int .i64 (k : Int)] 3) := ⟨_, rfl⟩
            have hAL : Only (fun _ => False) wc WA := by rw [hWA]; exact Only.alloc _ _ _
            have HAL := Lib.hid hAL
            have HSRC : Hid (SrcOf encN WA ao told) := Lib.hid (RowOf.src (HF.out.row.only hAL (fun _ _ e => e)))
            have HONE : Hid (RowN w.heap.size (some ⟨wc.heap.size, 0, none⟩) 1 [(k : Int)] WA) := Lib.hid (one_num (by rw [hWA]; exact heap_alloc_new _ _) HF.out.since.size)
            clear hAL
            go_wp2_with (first
              | (at_builtin; rw [← hWA]; go_loud (refine wp_many liesN (by rfl) (.tmp 60) (.tmp 61) 47 (by rfl) w.heap.size 3 i0 _ 8 Try.underlying47 hi0 hz0 hz1 hz2 rfl (by omega) WA (some ⟨wc.heap.size, 0, none⟩) 1 [(k : Int)] (by rfl) HONE.out ao cap told (by rw [HLN.out]; rfl) HSRC.out (by rw [HLN.out]; have := HK.out; simp; omega) (Nat.le_trans HF.out.since.size HAL.out.size) ?_)
                 intro a2 c2 w2 hrow2 ho2 hnew2
                 go_loud (have HE2 : Hid (Ee b (k + 1) (addN true k told) (addN true k told) a2 c2 w w2) := Lib.hid (HF.out.front hrow2 (idx.Only.cut HAL.out ho2 (by rintro q ⟨g, hg, rfl⟩; cases hg; exact Nat.le_refl _)) (fun g hg => by
                   rcases hnew2 g hg with e | e
                   · cases e; exact Nat.le_refl _
                   · exact Nat.le_trans HAL.out.size e)))
                 go_loud (have hlen2 : [(k : Int)].length + told.length = k + 1 := by rw [HLN.out]; simp; omega)
                 go_loud (rw [hlen2])
                 clear hrow2 ho2 hnew2 hlen2 hWA HSRC HONE HAL)
              | fail)
            go_roundw
            case rel => exact ⟨k + 1, a2, c2, _, rfl, by go_num, by omega, HE2⟩
            case measure => simp [RowKit.intOf]; omega
          | false =>
            go_wp2_with (first
              | (at_builtin; go_loud (refine wp_append_one liesN (by rfl) (.tmp 63) (.tmp 65) 47 (by rfl) w.heap.size 3 i0 _ 8 Try.underlying47 hi0 hz0 hz1 hz2 rfl (by omega) wc ao cap told (k : Int) [.int .i64 k] rfl (by rw [HLN.out]; rfl) HF.out.row (by rfl) (by rw [HLN.out]; have := HK.out; omega) HF.out.since.size ?_)
                 intro a2 c2 w2 hrow2 ho2 hnew2
                 go_loud (have HE2 : Hid (Ee b (k + 1) (addN false k told) (addN false k told) a2 c2 w w2) := Lib.hid (HF.out.grow hrow2 ho2 hnew2))
                 go_loud (have hlen2 : (told ++ [(k : Int)]).length = k + 1 := by rw [List.length_append, HLN.out]; rfl)
                 go_loud (rw [hlen2])
                 clear hrow2 ho2 hnew2 hlen2)
              | fail)
            go_roundw
            case rel => exact ⟨k + 1, a2, c2, _, rfl, by go_num, by omega, HE2⟩
            case measure => simp [RowKit.intOf]; omega
      · obtain rfl : k = l.length := by omega
        have HLN : Hid (told.length = l.length) := Lib.hid hE.out.len
        have HHL : Hid (told.length ≤ 100) := Lib.hid (by rw [HLN.out]; exact hl)
        have hee : (((l.length : Int) == (l.length : Int)) : Bool) = true := by simp
        go_wp2_with fail
        refine hE.out.gen.mono ?_
        rintro e u ⟨rfl, hu⟩
        obtain rfl : wr = u := hu.symm
        go_wp2_with fail
        refine (hE.out.all HHL.out).mono ?_
        rintro e w5 ⟨a, c, rfl, hna, ho5⟩
        have HE5 := Lib.hid (hE.out.later ho5)
        have HSM := Lib.hid (same_ints told told a ao c cap w5 hna (NumsAt.row HE5.out.row) (by have := HHL.out; omega) (by have := HHL.out; omega))
        rw [HLN.out, decide_eq_true rfl] at HSM
        clear hna ho5
        rw [HLN.out]
        go_wp2_with fail
        refine HSM.out.mono ?_
        rintro e w6 ⟨rfl, ho6⟩
        have HE6 := Lib.hid (HE5.out.later ho6)
        clear ho6 HSM HE5
        go_wp2_with fail
        refine HE6.out.gen.mono ?_
        rintro e u ⟨rfl, hu⟩
        obtain rfl : w6 = u := hu.symm
        go_wp2_with fail
        go_ret
        exact ⟨rfl, HE6.out.since.to_below⟩
  · have hgt : decide ((l.length : Int) > 100) = true := decide_eq_true (by omega)
    go_wp2_with fail
    refine (lives_any _).mono ?_
    rintro e w3 ⟨rfl, ho3⟩
    have HE3 := Lib.hid (HE.out.later ho3)
    clear ho3
    go_wp2_with fail
    go_ret
    exact ⟨rfl, HE3.out.since.to_below⟩
end Go.Proofs.Ythfilpacmllhpab.bases
