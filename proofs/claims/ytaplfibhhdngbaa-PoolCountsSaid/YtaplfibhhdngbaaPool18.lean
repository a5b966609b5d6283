/- Take at the top, walked. -/
import Derived.Test.YtaplfibhhdngbaaPool17
namespace Go.Proofs.Ytaplfibhhdngbaa.pools
open Go.RowKit Go.Proofs.Ytaplfibhhdngbaa.own Go.Proofs.Ytaplfibhhdngbaa.trees Go.Proofs.Ytaplfibhhdngbaa.rows
variable {Sm S : Nat → Prop} {B b k sz : Nat} {so : Option Addr} {scap : Nat} {ao : Option Addr} {cap : Nat} {T : List Int} {f : Nat → Nat} {lim : Nat} {F : List Bool} {St : List Nat} {w w' : World} {o : Nat}
theorem Pow.of (hk : sz = 2 ^ k) (hs : sz ≤ 1048576) : Pow sz := by
  refine ⟨k, hk, ?_⟩
  rcases Nat.lt_or_ge 20 k with h | h
  · have : 2 ^ 21 ≤ 2 ^ k := Nat.pow_le_pow_right (by omega) (by omega)
    simp at this
    omega
  · exact h
theorem PoolAt.room_for (h : PoolAt Sm S B b k sz so scap ao cap T f lim F St w) {n : Nat} {w1 : World} (hl : F.length + n ≤ lim) (hn : 1 ≤ n) (e : w1 = w.setCell ⟨b, 1, none⟩ (.int .i64 ((F.length + n : Nat) : Int))) :
    Calls Try.prog 41 #[.pointer (some ⟨b, 3, none⟩), .int .i64 ((F.length + n : Nat) : Int)] w1 fun e w2 => e = .returned (.tuple #[]) ∧ ∃ k' s' ao' cap' T', PoolAt Sm (Grew S w w2) B b k' s' so scap ao' cap' T' f lim (F ++ List.replicate n false) St w2 ∧ Only S w w2 := by
  rcases Nat.lt_or_ge sz (F.length + n) with hs | hs
  · have hbl : w1.heap[b]? = some (.cells (#[.int .i64 lim, .int .i64 ((F.length + n : Nat) : Int), .slice so St.length scap, .int .i64 sz, .slice ao T.length cap, .int .i64 (count F)]) 56 (0, 0)) := by
      subst e
      rw [blk_set h.blk 1 _]
      rfl
    have o1 : Only (· = b) w w1 := by subst e; exact Only.setCell (S := (· = b)) w (p := ⟨b, 1, none⟩) rfl _
    have hlim := h.limit.2
    have hbs := h.own b h.inS.1
    have hlenT : T.length = 2 * sz := by
      rcases h.tree with ⟨h0, _, _, h1⟩ | ⟨h1, h2⟩
      · subst h0 h1; rfl
      · rw [h1.len, h2]
    refine (grow_any (o := 3) (if sz = 0 then 1 else sz) (F.length + n) _ 56 (h.most.only o1 (fun g hg e => h.apart.2.1 g hg e)) h.small hlenT hbl (by simp) rfl rfl (by have := o1.size; omega) rfl ?_ hs (by omega) ?_).mono ?_
    · rcases h.tree with ⟨h0, _⟩ | ⟨h1, h2⟩
      · rw [if_pos h0]; exact ⟨0, rfl, by omega⟩
      · have := pow_pos2 k
        rw [if_neg (by omega)]
        exact Pow.of h2 h.few
    · intro h0
      rcases h.tree with ⟨_, h1, h2, _⟩ | ⟨h1, h2⟩
      · exact ⟨h1, h2⟩
      · have := pow_pos2 k; omega
    · rintro e2 w2 ⟨rfl, k', s', T', hG⟩
      exact ⟨rfl, k', s', _, _, T', h.grown hl hs e hG⟩
  · have hm := h.more hl hs e
    refine (grow_none (sz := sz) (F.length + n) hm.1.c3 hs).mono ?_
    rintro e2 w2 ⟨rfl, rfl⟩
    have hP := hm.1
    refine ⟨rfl, k, sz, ao, cap, T, ⟨hP.blk, hP.starts, hP.most, hP.tree, hP.few, hP.small, hP.leaf, hP.rest, hP.inv, hP.room, hP.limit, hP.first, hP.rising, hP.below, hP.segs, ⟨.inl hP.inS.1, fun g hg => .inl (hP.inS.2.1 g hg), fun g hg => .inl (hP.inS.2.2 g hg)⟩, fun j hj => ?_, hP.apart⟩, hm.2⟩
    rcases hj with hj | hj
    · exact hP.own j hj
    · have := (h.own b h.inS.1)
      omega
set_option maxRecDepth 100000 in
theorem take_top (n : Nat) (hn : 1 ≤ n) (h : PoolAt Sm S B b k sz so scap ao cap T f lim F St w) (hz : ∀ q, lastOf St ≤ q → f q < n) (hf : F.length + n ≤ lim) :
    Calls Try.prog 12 #[.pointer (some ⟨b, 0, none⟩), .int .i64 n] w fun e w' => e = .returned (.tuple #[.int .i64 F.length, .int .i64 0]) ∧ ∃ k' s' ao' cap' T', PoolAt Sm (Grew S w w') B b k' s' so scap ao' cap' T' f lim (F ++ List.replicate n false) St w' ∧ Only S w w' := by
  have HC := Lib.hid (closed_no h)
  have H := Lib.hid h
  have hone := h.one
  have hsg := h.segs
  have hlim := h.limit
  have c0 := h.c0
  have c1 := h.c1
  have c2 := h.c2
  have g1 := free_of_blk h.blk 1
  obtain ⟨g, rfl, _⟩ := h.start 0 0 h.first
  have cs := start_cell h.starts (St.length - 1) (by omega)
  change w.cell? _ = some (.int .i64 (lastOf St : Int)) at cs
  have hn2 : ¬ ((n : Int) < 1) := by omega
  have HQ1 : Hid (∀ N, Calls Try.prog 39 #[.pointer (some ⟨b, 0, none⟩)] (w.drewN N) fun e w' => e = .returned (.int .i64 ((St.length - 1 : Nat) : Int)) ∧ w' = w.drewN N) := Lib.hid (fun N => (last_seg (H.out.drewN N)).mono (fun _ _ hh => ⟨hh.1, hh.2.symm⟩))
  have HQ2 : Hid (∀ N, Calls Try.prog 38 #[.pointer (some ⟨b, 3, none⟩), .int .i64 (lastOf St), .int .i64 n] (w.drewN N) fun e w' => e = .returned (.int .i64 (-1)) ∧ w' = w.drewN N) := Lib.hid (fun N => first_none n (lastOf St) hn (by omega) (H.out.drewN N) hz)
  have hi1 : ((St.length - 1 : Nat) : Int) < (St.length : Int) := by omega
  have hfi : ¬ ((n : Int) > (lim : Int) - (F.length : Int)) := by omega
  have HRm := Lib.hid (fun N w1 e => PoolAt.room_for (w1 := w1) (H.out.drewN N) hf hn e)
  clear h hz
  generalize hm : St.length - 1 = m at *
  generalize lastOf St = s0 at *
  go_enter Try.func12, Try.ntmps12
  go_wp2_with fail
  refine HC.out.mono ?_
  rintro e w1 ⟨rfl, rfl⟩
  go_wp2_with fail
  go_quiet (first | (go_at_call 39; exact Calls.quiet_of_same (HQ1.out _)) | (go_at_call 38; exact Calls.quiet_of_same (HQ2.out _)))
  generalize nq = N1 at *
  go_wp2_with fail
  go_quiet (fail)
  rw [World.drewN_drewN]
  generalize N1 + nq = N at *
  go_wp2_with fail
  have d1 : ((w.drewN N).setCell ⟨b, 1, none⟩ (.int .i64 ((F.length : Int) + (n : Int)))).cell? ⟨b, 1, none⟩ = some (.int .i64 ((F.length : Int) + (n : Int))) := by
    rw [cell_of_blk (blk_set (H.out.drewN N).blk 1 _)]; rfl
  have HRm2 := HRm.out (N + 1) (((w.drewN N).setCell ⟨b, 1, none⟩ (.int .i64 ((F.length : Int) + (n : Int)))).drew) (by rw [show ((F.length + n : Nat) : Int) = (F.length : Int) + (n : Int) by omega]; rfl)
  rw [show ((F.length + n : Nat) : Int) = (F.length : Int) + (n : Int) by omega] at HRm2
  have HRm3 := Lib.hid HRm2
  clear c0 c1 c2 cs g1 HRm HRm2
  generalize (w.drewN N).setCell ⟨b, 1, none⟩ (.int .i64 ((F.length : Int) + (n : Int))) = w5 at *
  go_still_tail 7, (by kernel_rfl)
  change wpList _ _ _ _ _ w5.drew
  go_wp2_with fail
  refine HRm3.out.mono ?_
  rintro e w6 ⟨rfl, k', s', ao', cap', T', hP, ho⟩
  go_wp2_with fail
  go_ret2
  refine ⟨rfl, k', s', ao', cap', T', ?_, ?_⟩
  · exact hP
  · exact (Only.drewN S w (N + 1)).same ho
end Go.Proofs.Ytaplfibhhdngbaa.pools
