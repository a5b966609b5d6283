/- The document's Open, Close, Back, Left. -/
import Derived.Test.YtaplfibhhdngbaaPool43
namespace Go.Proofs.Ytaplfibhhdngbaa.pools
open Go.RowKit Go.Proofs.Ytaplfibhhdngbaa.own Go.Proofs.Ytaplfibhhdngbaa.trees Go.Proofs.Ytaplfibhhdngbaa.rows Go.Proofs.Ytaplfibhhdngbaa.frames
variable {R : Nat → Prop} {B b : Nat} {fo fo' : Option Addr} {fcap fcap' : Nat} {so so' : Option Addr} {scap scap' : Nat} {lim : Nat} {F F' : List Bool} {St St' : List Nat} {w w' w2 w3 : World}
set_option maxRecDepth 100000 in
set_option maxHeartbeats 4000000 in
theorem ropen_any (h : RefAt R B b fo fcap so scap lim F St w) :
    Calls Try.prog 30 #[.pointer (some ⟨b, 0, none⟩)] w fun e w' => e = .returned (.int .i64 (openF F St).1) ∧ Ref (Grew R w w') B b lim F (openF F St).2 w' ∧ Only R w w' := by
  obtain ⟨i0, hi, hz0, hz1, hz2⟩ := info_parts info64
  have H := Lib.hid h
  have c0 := h.c0
  have c1 := h.c1
  have g1 := free_of_blk h.blk 1
  have hB := h.own b h.inR.1
  have hone := h.facts.one
  have hlim := h.facts.limit
  unfold openF
  by_cases hf : St.length < 4096
  · rw [if_pos hf]
    obtain ⟨gs, hg0, _⟩ := h.start 0 hone
    subst hg0
    have hgb : gs ≠ b := h.apart.2.1 _ rfl
    have hgl : gs < w.heap.size := (h.starts.head _ rfl).2.2
    have HOWN : Hid (w.ownsRow B 3 1 (.slice (some ⟨gs, 0, none⟩) St.length scap) St.length (St.flatMap enc64)) := Lib.hid h.starts
    have HR := Lib.hid h.starts
    have HF := Lib.hid hf
    generalize hn : St.length = n at *
    have HN := Lib.hid hn
    have hn4 : (n : Int) < 4096 := by omega
    have hc0 : ((w.alloc (.cells #[.int .i64 F.length] 3)).drew).cell? ⟨b, 1, none⟩ = some (.slice (some ⟨gs, 0, none⟩) n scap) :=
      (((Only.alloc (fun _ => False) w _).same (Only.drew (fun _ => False) _)).cell (p := ⟨b, 1, none⟩) hB.2 (fun e => e)).trans c1
    have hf0 : ((w.alloc (.cells #[.int .i64 F.length] 3)).drew).frozen? ⟨b, 1, none⟩ = false :=
      (((Only.alloc (fun _ => False) w _).same (Only.drew (fun _ => False) _)).frozen (p := ⟨b, 1, none⟩) hB.2 (fun e => e)).trans g1
    have ab : (Value.slice (some ⟨gs, 0, none⟩) n scap).ownBlock ≠ some b := by
      simp only [Value.ownBlock, ne_eq, Option.some.injEq]; exact hgb
    clear h hf hn
    go_enter Try.func30, Try.ntmps30
    go_wp2_with fail
    go_region_law
      ((refine step_append_lies _ (by rfl) _ _ _ (by rfl) B 3 i0 _ 1 8 Try.underlying38 hi hz0 hz1 hz2 rfl (by omega) (.slice (some ⟨gs, 0, none⟩) n scap) n (St.flatMap enc64) (by rfl) ((HOWN.out.alloc _).drew)
            ⟨w.heap.size, 0, none⟩ 1 1 [.int .i64 F.length] (by rfl) (by rfl) (World.news_of_block (cs := #[.int .i64 F.length]) (t := 3) (fr := (0, 0)) (heap_alloc_new w _)) (by simp [Value.oneCell'])
            (by omega) (by unfold maxLen; omega) (by omega) (by simp; omega) (w.heap.size + 1) (by simp) ?_; intro gg cap' w5 hown5 hgrow hat hlt5; have hfz : w5.frozen? ⟨b, 1, none⟩ = false := (hgrow.frozen_far ⟨b, 1, none⟩ (by simp; omega) (Ne.symm ab)).trans hf0; have hcb : w5.cell? ⟨b, 1, none⟩ = some (.slice (some ⟨gs, 0, none⟩) n scap) := (hgrow.cell_far ⟨b, 1, none⟩ (by simp; omega) (Ne.symm ab)).trans hc0))
    all_goals
      have HA := Lib.hid (appended_row (W := (w.alloc (.cells #[.int .i64 F.length] 3)).drew) (z := F.length) HR.out HN.out ((Only.alloc (fun _ => False) w _).same (Only.drew (fun _ => False) _)) hown5 hgrow (by
        rcases hat with hat | hat
        · exact .inl hat
        · right; omega))
      have HP := Lib.hid (fun w6 e => H.out.opened (w3 := w6) (by rw [HN.out]; exact HF.out) HA.out.1 HA.out.2.1 HA.out.2.2 e)
      have hl : (St ++ [F.length]).length = n + 1 := by rw [List.length_append, HN.out]; rfl
      rw [hl] at HP
      clear hown5 hgrow hat hfz hcb hl HR HA HOWN c0 c1 g1
      go_wp2_with fail
      go_ret
      have hP := HP.out _ rfl
      exact ⟨rfl, ⟨_, _, _, _, hP.1⟩, hP.2⟩
  · rw [if_neg hf]
    have h2 : (St.length : Int) ≥ 4096 := by omega
    have HR := Lib.hid (h.wide h)
    clear h hf
    go_enter Try.func30, Try.ntmps30
    go_wp2_with fail
    go_ret
    exact ⟨rfl, ⟨_, _, _, _, HR.out⟩, Only.refl _ _⟩
set_option maxRecDepth 100000 in
set_option maxHeartbeats 4000000 in
theorem rclose_any (h : RefAt R B b fo fcap so scap lim F St w) :
    Calls Try.prog 31 #[.pointer (some ⟨b, 0, none⟩)] w fun e w' => e = .returned (.int .i64 (closeF St).1) ∧ Ref (Grew R w w') B b lim F (closeF St).2 w' ∧ Only R w w' := by
  have H := Lib.hid h
  have c1 := h.c1
  have g1 := free_of_blk h.blk 1
  have hone := h.facts.one
  have hsg := h.facts.segs
  have hcap := h.starts.cap_ge
  unfold maxLen at hcap
  unfold closeF
  by_cases hf : St.length = 1
  · rw [if_pos hf]
    have HR := Lib.hid (h.wide h)
    have hf2 : ((St.length : Int) == 1) = true := by simp; omega
    clear h
    go_enter Try.func31, Try.ntmps31
    go_wp2_with fail
    go_ret
    exact ⟨rfl, ⟨_, _, _, _, HR.out⟩, Only.refl _ _⟩
  · rw [if_neg hf]
    obtain ⟨m, hm⟩ : ∃ m, St.length = m + 1 := ⟨St.length - 1, by omega⟩
    have hc := fun w2 e => (h.only (Only.drew (fun _ => False) w)).closed (w2 := w2) hm (by omega) e
    have HC := Lib.hid hc
    obtain ⟨gs, hg0, _⟩ := h.start 0 hone
    subst hg0
    have HM := Lib.hid hm
    rw [hm, Nat.add_sub_cancel]
    have hf2 : ((St.length : Int) == 1) = false := by simp; omega
    have hlI : (St.length : Int) - 1 = (m : Int) := by omega
    have hlc : m ≤ scap := by omega
    rw [hm] at hf2 c1
    have hw1 : IntKind.i64.wrap (m : Int) = (m : Int) := IntWalk.i64_in _ (by omega)
    have hb0 : (0 : Int) ≤ (m : Int) := by omega
    have hb1 : (m : Int) ≤ (scap : Int) := by omega
    clear h hc hf hm hlI
    go_enter Try.func31, Try.ntmps31
    go_wp2_with fail
    go_still_tail 14, (by kernel_rfl)
    change wpList _ _ _ _ _ w.drew
    have c1d : w.drew.cell? ⟨b, 1, none⟩ = some (.slice (some ⟨gs, 0, none⟩) (m + 1) scap) := c1
    have g1d : w.drew.frozen? ⟨b, 1, none⟩ = false := g1
    have HOd : Hid (Only (fun _ => False) w w.drew) := Lib.hid (Only.drew _ _)
    clear c1 g1
    generalize w.drew = w5 at *
    go_wp2_with fail
    go_ret
    have hP := HC.out _ rfl
    exact ⟨rfl, ⟨_, _, _, _, H.out.wide hP.1⟩, (HOd.out.no R).same hP.2⟩
theorem fo_none (h : RefAt R B b none fcap so scap lim F St w) : F.length = 0 ∧ fcap = 0 := by
  rcases h.free.2 with ⟨h1, h2⟩ | ⟨g, cap, cur, hv, _⟩
  · simp only [Value.slice.injEq] at h1
    exact ⟨h2, h1.2.2⟩
  · simp only [Value.slice.injEq] at hv
    exact absurd hv.1 (by simp)
set_option maxRecDepth 100000 in
set_option maxHeartbeats 4000000 in
theorem rback_any (h : RefAt R B b fo fcap so scap lim F St w) :
    Calls Try.prog 32 #[.pointer (some ⟨b, 0, none⟩)] w fun e w' => e = .returned (.tuple #[]) ∧ Ref (Grew R w w') B b lim (F.take (lastOf St)) St w' ∧ Only R w w' := by
  have H := Lib.hid h
  have c0 := h.c0
  have c1 := h.c1
  have g0 := free_of_blk h.blk 0
  have hone := h.facts.one
  have hsg := h.facts.segs
  have hcap := h.free.cap_ge
  unfold maxLen at hcap
  have hle : lastOf St ≤ F.length := h.facts.below _ (getD_mem (by omega))
  obtain ⟨n', hn'⟩ : ∃ n', St.length = n' + 1 := ⟨St.length - 1, by omega⟩
  have hmax : ∀ s, s ∈ St → s ≤ lastOf St := fun s hs => by
    obtain ⟨t, ht, rfl⟩ := mem_getD hs
    exact getD_le h.facts.rising (by omega) (by omega)
  have HC := Lib.hid (fun w2 e => (h.only (Only.drew (fun _ => False) w)).cutF (w2 := w2) hle hmax e)
  have hlim := h.facts.limit
  obtain ⟨gs, hg0, cs⟩ := h.start n' (by omega)
  subst hg0
  have hla : St.getD n' 0 = lastOf St := by unfold lastOf; rw [hn', Nat.add_sub_cancel]
  rw [hla] at cs
  rw [hn'] at c1
  generalize hll : lastOf St = la at *
  have hw1 : IntKind.i64.wrap (n' : Int) = (n' : Int) := IntWalk.i64_in _ (by omega)
  have hb0 : (0 : Int) ≤ (n' : Int) := by omega
  have hb1 : (n' : Int) < (n' : Int) + 1 := by omega
  have hb2 : (0 : Int) ≤ (la : Int) := by omega
  have hb3 : (la : Int) ≤ (fcap : Int) := by omega
  have HOd : Hid (Only (fun _ => False) w w.drew) := Lib.hid (Only.drew _ _)
  cases fo with
  | none =>
    obtain ⟨hF0, hc0⟩ := fo_none h
    have hla0 : la = 0 := by omega
    subst hla0 hc0
    clear h hle hmax hla hll hn' hcap
    rw [hF0] at c0
    go_enter Try.func32, Try.ntmps32
    go_wp2_with fail
    go_still_tail 20, (by kernel_rfl)
    change wpList _ _ _ _ _ w.drew
    have c0d : w.drew.cell? ⟨b, 0, none⟩ = some (.slice none 0 0) := c0
    have g0d : w.drew.frozen? ⟨b, 0, none⟩ = false := g0
    clear c0 g0 c1 cs
    generalize w.drew = w5 at *
    go_wp2_with fail
    go_end0
    have hP := HC.out _ rfl
    exact ⟨rfl, ⟨_, _, _, _, H.out.wide hP.1⟩, (HOd.out.no R).same hP.2⟩
  | some ga =>
    obtain ⟨gf, rfl⟩ : ∃ gf, ga = ⟨gf, 0, none⟩ := ⟨ga.block, (h.free.head _ rfl).1⟩
    clear h hle hmax hla hll hn' hcap
    go_enter Try.func32, Try.ntmps32
    go_wp2_with fail
    go_still_tail 20, (by kernel_rfl)
    change wpList _ _ _ _ _ w.drew
    have c0d : w.drew.cell? ⟨b, 0, none⟩ = some (.slice (some ⟨gf, 0, none⟩) F.length fcap) := c0
    have g0d : w.drew.frozen? ⟨b, 0, none⟩ = false := g0
    clear c0 g0 c1 cs
    generalize w.drew = w5 at *
    go_wp2_with fail
    go_end0
    have hP := HC.out _ rfl
    exact ⟨rfl, ⟨_, _, _, _, H.out.wide hP.1⟩, (HOd.out.no R).same hP.2⟩
theorem count_next (i : Nat) (hi : i < F.length) : count (F.take (i + 1)) = count (F.take i) + (if F.getD i false = true then 1 else 0) := by
  unfold count
  rw [List.take_succ_eq_append_getElem hi, List.filter_append, List.length_append]
  congr 1
  rw [List.getD_eq_getElem?_getD, List.getElem?_eq_getElem hi]
  cases F[i] <;> rfl
set_option maxRecDepth 100000 in
set_option maxHeartbeats 4000000 in
theorem rleft_any (h : RefAt R B b fo fcap so scap lim F St w) :
    Calls Try.prog 34 #[.pointer (some ⟨b, 0, none⟩)] w fun e w' => e = .returned (.int .i64 (leftOf F lim)) ∧ Only (fun _ => False) w w' := by
  have H := Lib.hid h
  have c0 := h.c0
  have c2 := h.c2
  have hlim := h.facts.limit
  clear h
  go_enter Try.func34, Try.ntmps34
  go_wp2_with fail
  go_quiet (fail)
  have H5 := Lib.hid (H.out.only (Only.drewN (fun _ => False) w nq))
  have HO5 : Hid (Only (fun _ => False) w (w.drewN nq)) := Lib.hid (Only.drewN _ w nq)
  clear c0 c2
  generalize w.drewN nq = w5 at *
  have c0 := H5.out.c0
  go_wp2_with fail
  go_loopw [3, 4] (fun v i wr => ∃ (k : Nat) (c : Nat), v = .int .i64 ((lim : Int) - (F.length : Int) + (c : Int)) ∧ i = .int .i64 k ∧ k ≤ F.length ∧ c ≤ k ∧ wr = w5 ∧ Hid (count (F.take k) = c)) (fun _ i _ => F.length - (intOf i).toNat)
  case atStart => exact ⟨0, 0, by simp, rfl, by omega, by omega, rfl, Lib.hid rfl⟩
  case round =>
    obtain ⟨k, c, rfl, rfl, hk, hck, rfl, HC⟩ := hrel
    by_cases hkl : k < F.length
    · obtain ⟨g, hg, hcell, _⟩ := H5.out.cell k hkl
      subst hg
      have hnx := count_next k hkl
      have HNx := Lib.hid hnx
      have hkI : (k : Int) < (F.length : Int) := by omega
      clear hnx
      cases hf : F.getD k false with
      | true =>
        rw [hf] at hcell HNx
        go_wp2_with fail
        go_roundw
        case rel => exact ⟨k + 1, c + 1, by go_num, by go_num, by omega, by omega, by first | rfl | trivial, Lib.hid (by rw [HNx.out, HC.out]; rfl)⟩
        case measure => simp [intOf]; omega
      | false =>
        rw [hf] at hcell HNx
        go_wp2_with fail
        go_roundw
        case rel => exact ⟨k + 1, c, by go_num, by go_num, by omega, by omega, by first | rfl | trivial, Lib.hid (by rw [HNx.out, HC.out]; rfl)⟩
        case measure => simp [intOf]; omega
    · have hke : k = F.length := by omega
      subst hke
      have hkI : ¬ ((F.length : Int) < (F.length : Int)) := by omega
      have hcE : (lim : Int) - (F.length : Int) + (c : Int) = leftOf F lim := by
        have := HC.out
        rw [List.take_length] at this
        unfold leftOf
        omega
      have HE := Lib.hid hcE
      clear hcE
      go_wp2_with fail
      go_ret
      exact ⟨by rw [← HE.out]; rfl, HO5.out⟩
end Go.Proofs.Ytaplfibhhdngbaa.pools
