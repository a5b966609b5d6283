/- Cells are taken where a row begins, and what follows: 4 texts in one. -/
import Derived.Test.YtaplfibhhdngbaaPool14
/- Cells are taken where a row begins. -/
namespace Go.Proofs.Ytaplfibhhdngbaa.pools
section
open Go.RowKit Go.Proofs.Ytaplfibhhdngbaa.own Go.Proofs.Ytaplfibhhdngbaa.trees Go.Proofs.Ytaplfibhhdngbaa.rows
variable {Sm S : Nat → Prop} {B b k sz : Nat} {so : Option Addr} {scap : Nat} {ao : Option Addr} {cap : Nat} {T : List Int} {f : Nat → Nat} {lim : Nat} {F : List Bool} {St : List Nat} {w w' : World} {o : Nat}
theorem grow_none (p : Nat) (c0 : w.cell? ⟨b, o, none⟩ = some (.int .i64 sz)) (hp : p ≤ sz) : Calls Try.prog 41 #[.pointer (some ⟨b, o, none⟩), .int .i64 p] w fun e w' => e = .returned (.tuple #[]) ∧ w = w' := by
  go_enter Try.func41, Try.ntmps41
  go_wp2_with fail
  refine bodyPost_ret (results_none rfl _ _ _) rfl ?_
  exact ⟨rfl, rfl⟩
theorem take_small (n : Int) (hn : n < 1) (h : PoolAt Sm S B b k sz so scap ao cap T f lim F St w) : Calls Try.prog 12 #[.pointer (some ⟨b, 0, none⟩), .int .i64 n] w fun e w' => e = .returned (.tuple #[.int .i64 0, .int .i64 1]) ∧ w = w' := by
  have HC := Lib.hid (closed_no h)
  clear h
  go_enter Try.func12, Try.ntmps12
  go_wp2_with fail
  refine HC.out.mono ?_
  rintro e w1 ⟨rfl, rfl⟩
  go_wp2_with fail
  go_ret2
  exact ⟨rfl, rfl⟩
/-- Where the last segment begins. -/
def lastOf (St : List Nat) : Nat := St.getD (St.length - 1) 0
set_option maxRecDepth 100000 in
theorem take_found (n p : Nat) (hn : 1 ≤ n) (hn1 : n ≤ 9223372036854775807) (h : PoolAt Sm S B b k sz so scap ao cap T f lim F St w) (hp1 : lastOf St ≤ p) (hp2 : n ≤ f p) (hp3 : ∀ q, lastOf St ≤ q → q < p → f q < n) :
    Calls Try.prog 12 #[.pointer (some ⟨b, 0, none⟩), .int .i64 n] w fun e w' => e = .returned (.tuple #[.int .i64 p, .int .i64 0]) ∧ ∃ T', PoolAt Sm S B b k sz so scap ao cap T' (cut f p n) lim (put F p false n) St w' ∧ Only S w w' := by
  have HC := Lib.hid (closed_no h)
  have HL := Lib.hid (last_seg h)
  have H := Lib.hid h
  have hcut := h.cutting hn hp2
  have hroom := h.room
  have hsz : 0 < sz := by omega
  have HR := Lib.hid (h.runsF hsz)
  have hone := h.one
  have hsg := h.segs
  have c2 := h.c2
  obtain ⟨g, rfl, _⟩ := h.start 0 0 h.first
  have cs := start_cell h.starts (St.length - 1) (by omega)
  change w.cell? _ = some (.int .i64 (lastOf St : Int)) at cs
  have HSh := Lib.hid (shorten_any p n hn h hp2)
  have hn2 : ¬ ((n : Int) < 1) := by omega
  have HF := Lib.hid (first_f (lastOf St) n (h.runsF hsz) hn hn1)
  have HU : Hid (∀ r, FirstF f (lastOf St) n r → r = (p : Int)) := Lib.hid (by
    rintro r (⟨rfl, hz⟩ | ⟨p', rfl, g1, g2, g3⟩)
    · have := hz p hp1; omega
    · rcases Nat.lt_trichotomy p p' with hl | he | hg
      · have := g3 p hp1 hl; omega
      · rw [he]
      · have := hp3 p' g1 hg; omega)
  have HQ1 : Hid (∀ N, Calls Try.prog 39 #[.pointer (some ⟨b, 0, none⟩)] (w.drewN N) fun e w' => e = .returned (.int .i64 ((St.length - 1 : Nat) : Int)) ∧ w' = w.drewN N) := Lib.hid (fun N => (last_seg (H.out.drewN N)).mono (fun _ _ hh => ⟨hh.1, hh.2.symm⟩))
  have HQ2 : Hid (∀ N, Calls Try.prog 38 #[.pointer (some ⟨b, 3, none⟩), .int .i64 (lastOf St), .int .i64 n] (w.drewN N) fun e w' => e = .returned (.int .i64 p) ∧ w' = w.drewN N) := Lib.hid (fun N => (first_f (lastOf St) n ((H.out.drewN N).runsF hsz) hn hn1).mono (by
    rintro e w' ⟨⟨r, rfl, hr⟩, e2⟩
    exact ⟨by rw [HU.out r hr], e2.symm⟩))
  have HSh2 : Hid (∀ N, Calls Try.prog 40 #[.pointer (some ⟨b, 0, none⟩), .int .i64 p, .int .i64 n] (w.drewN N) fun e w' => e = .returned (.tuple #[]) ∧ ∃ T', PoolAt Sm S B b k sz (some ⟨g, 0, none⟩) scap ao cap T' (cut f p n) lim (put F p false n) St w' ∧ Only S w w') := Lib.hid (fun N => (shorten_any p n hn (H.out.drewN N) hp2).mono (by
    rintro e w' ⟨rfl, T', hT, ho⟩
    exact ⟨rfl, T', hT, (Only.drewN S w N).same ho⟩))
  have hi1 : ((St.length - 1 : Nat) : Int) < (St.length : Int) := by omega
  have hpm : ((p : Int) == -1) = false := by simp
  clear h hcut hp1 hp2 hp3
  generalize hm : St.length - 1 = m at *
  generalize lastOf St = s0 at *
  go_enter Try.func12, Try.ntmps12
  go_wp2_with fail
  refine HC.out.mono ?_
  rintro e w1 ⟨rfl, rfl⟩
  go_wp2_with fail
  go_quiet (first | (go_at_call 39; exact Calls.quiet_of_same (HQ1.out _)) | (go_at_call 38; exact Calls.quiet_of_same (HQ2.out _)))
  go_wp2_with fail
  refine (HSh2.out _).mono ?_
  rintro e w2 ⟨rfl, T', hT, ho⟩
  go_wp2_with fail
  go_ret2
  exact ⟨rfl, T', hT, ho⟩
end
end Go.Proofs.Ytaplfibhhdngbaa.pools
/- No row is long enough, and no more cells may be. -/
namespace Go.Proofs.Ytaplfibhhdngbaa.pools
section
open Go.RowKit Go.Proofs.Ytaplfibhhdngbaa.own Go.Proofs.Ytaplfibhhdngbaa.trees Go.Proofs.Ytaplfibhhdngbaa.rows
variable {Sm S : Nat → Prop} {B b k sz : Nat} {so : Option Addr} {scap : Nat} {ao : Option Addr} {cap : Nat} {T : List Int} {f : Nat → Nat} {lim : Nat} {F : List Bool} {St : List Nat} {w w' : World} {o : Nat}
theorem first_none (n a : Nat) (hn : 1 ≤ n) (hn1 : n ≤ 9223372036854775807) (h : PoolAt Sm S B b k sz so scap ao cap T f lim F St w) (hz : ∀ q, a ≤ q → f q < n) :
    Calls Try.prog 38 #[.pointer (some ⟨b, 3, none⟩), .int .i64 a, .int .i64 n] w fun e w' => e = .returned (.int .i64 (-1)) ∧ w' = w := by
  rcases Nat.eq_zero_or_pos sz with e | e
  · refine (first_out a n h.c3 (by omega)).mono ?_
    rintro e w' ⟨rfl, rfl⟩
    exact ⟨rfl, rfl⟩
  · refine (first_f a n (h.runsF e) hn hn1).mono ?_
    rintro e w' ⟨⟨r, rfl, hr⟩, rfl⟩
    rcases hr with ⟨rfl, _⟩ | ⟨p, rfl, g1, g2, _⟩
    · exact ⟨rfl, rfl⟩
    · have := hz p g1; omega
set_option maxRecDepth 100000 in
theorem take_full (n : Nat) (hn : 1 ≤ n) (hn1 : n ≤ 9223372036854775807) (h : PoolAt Sm S B b k sz so scap ao cap T f lim F St w) (hz : ∀ q, lastOf St ≤ q → f q < n) (hf : lim - F.length < n) :
    Calls Try.prog 12 #[.pointer (some ⟨b, 0, none⟩), .int .i64 n] w fun e w' => e = .returned (.tuple #[.int .i64 0, .int .i64 2]) ∧ ∃ N, w' = w.drewN N := by
  have HC := Lib.hid (closed_no h)
  have H := Lib.hid h
  have hone := h.one
  have hsg := h.segs
  have hlim := h.limit
  have c0 := h.c0
  have c1 := h.c1
  have c2 := h.c2
  obtain ⟨g, rfl, _⟩ := h.start 0 0 h.first
  have cs := start_cell h.starts (St.length - 1) (by omega)
  change w.cell? _ = some (.int .i64 (lastOf St : Int)) at cs
  have hn2 : ¬ ((n : Int) < 1) := by omega
  have HQ1 : Hid (∀ N, Calls Try.prog 39 #[.pointer (some ⟨b, 0, none⟩)] (w.drewN N) fun e w' => e = .returned (.int .i64 ((St.length - 1 : Nat) : Int)) ∧ w' = w.drewN N) := Lib.hid (fun N => (last_seg (H.out.drewN N)).mono (fun _ _ hh => ⟨hh.1, hh.2.symm⟩))
  have HQ2 : Hid (∀ N, Calls Try.prog 38 #[.pointer (some ⟨b, 3, none⟩), .int .i64 (lastOf St), .int .i64 n] (w.drewN N) fun e w' => e = .returned (.int .i64 (-1)) ∧ w' = w.drewN N) := Lib.hid (fun N => first_none n (lastOf St) hn hn1 (H.out.drewN N) hz)
  have hi1 : ((St.length - 1 : Nat) : Int) < (St.length : Int) := by omega
  have hfi : (n : Int) > (lim : Int) - (F.length : Int) := by omega
  clear h hz
  generalize hm : St.length - 1 = m at *
  generalize lastOf St = s0 at *
  generalize F.length = len at *
  go_enter Try.func12, Try.ntmps12
  go_wp2_with fail
  refine HC.out.mono ?_
  rintro e w1 ⟨rfl, rfl⟩
  go_wp2_with fail
  go_quiet (first | (go_at_call 39; exact Calls.quiet_of_same (HQ1.out _)) | (go_at_call 38; exact Calls.quiet_of_same (HQ2.out _)))
  go_wp2_with fail
  first
    | (go_ret2; exact ⟨rfl, _, rfl⟩)
    | (go_quiet (fail); go_wp2_with fail; go_ret2; exact ⟨rfl, _, by first | rfl | rw [World.drewN_drewN]⟩)
end
end Go.Proofs.Ytaplfibhhdngbaa.pools
/- Cells are taken at the top. -/
namespace Go.Proofs.Ytaplfibhhdngbaa.pools
section
open Go.RowKit Go.Proofs.Ytaplfibhhdngbaa.own Go.Proofs.Ytaplfibhhdngbaa.trees Go.Proofs.Ytaplfibhhdngbaa.rows
variable {Sm S : Nat → Prop} {B b k sz : Nat} {so : Option Addr} {scap : Nat} {ao : Option Addr} {cap : Nat} {T : List Int} {f : Nat → Nat} {lim : Nat} {F : List Bool} {St : List Nat} {w w' : World} {o : Nat}
theorem more_get (F : List Bool) (n j : Nat) : (F ++ List.replicate n false).getD j false = F.getD j false := by
  simp only [List.getD_eq_getElem?_getD]
  rcases Nat.lt_or_ge j F.length with h | h
  · rw [List.getElem?_append_left h]
  · rw [List.getElem?_append_right h, List.getElem?_eq_none (l := F) h, List.getElem?_replicate]
    split <;> rfl
theorem PoolAt.more (h : PoolAt Sm S B b k sz so scap ao cap T f lim F St w) {n : Nat} {w1 : World} (hl : F.length + n ≤ lim) (hs : F.length + n ≤ sz) (e : w1 = w.setCell ⟨b, 1, none⟩ (.int .i64 ((F.length + n : Nat) : Int))) :
    PoolAt Sm S B b k sz so scap ao cap T f lim (F ++ List.replicate n false) St w1 ∧ Only S w w1 := by
  have hlen : (F ++ List.replicate n false).length = F.length + n := by simp
  have o2 : Only (· = b) w w1 := by subst e; exact Only.setCell (S := (· = b)) w (p := ⟨b, 1, none⟩) rfl _
  have hall : Only S w w1 := o2.mono (fun j _ hj => by rw [hj]; exact h.inS.1)
  refine ⟨⟨?_, h.starts.only o2 (fun g hg e => h.apart.1 g hg e), h.most.only o2 (fun g hg e => h.apart.2.1 g hg e), h.tree, h.few, h.small, h.leaf, h.rest, h.inv.congr (fun j => more_get F n j) (fun _ => Iff.rfl) (fun _ => rfl), by omega, ⟨by omega, h.limit.2⟩, h.first, h.rising, fun s hs' => by have := h.below s hs'; omega, h.segs, h.inS, fun j hj => ?_, h.apart⟩, hall⟩
  · subst e
    rw [blk_set h.blk 1 _]
    unfold poolCells
    rw [hlen, count_append]
    rfl
  · have := h.own j hj
    exact ⟨this.1, Nat.lt_of_lt_of_le this.2 hall.size⟩
/-- Behind grow: a pool with a greater tree. -/
theorem PoolAt.grown (h : PoolAt Sm S B b k sz so scap ao cap T f lim F St w) {n : Nat} {w1 w2 : World} {k' s : Nat} {T' : List Int} (hl : F.length + n ≤ lim) (hsz : sz < F.length + n) (e : w1 = w.setCell ⟨b, 1, none⟩ (.int .i64 ((F.length + n : Nat) : Int)))
    (hg : Grown B b 3 sz (F.length + n) T (#[.int .i64 lim, .int .i64 ((F.length + n : Nat) : Int), .slice so St.length scap, .int .i64 sz, .slice ao T.length cap, .int .i64 (count F)]) 56 w1 w2 k' s T') :
    PoolAt Sm (Grew S w w2) B b k' s so scap (some ⟨w1.heap.size, 0, none⟩) (2 * s) T' f lim (F ++ List.replicate n false) St w2 ∧ Only S w w2 := by
  have hlen : (F ++ List.replicate n false).length = F.length + n := by simp
  have o1 : Only (· = b) w w1 := by subst e; exact Only.setCell (S := (· = b)) w (p := ⟨b, 1, none⟩) rfl _
  have hall : Only S w w2 := (o1.same hg.only).mono (fun j _ hj => by rw [hj]; exact h.inS.1)
  have hs1 : w1.heap.size = w.heap.size := by subst e; simp [World.setCell]
  have hTl : T'.length = 2 * s := hg.runs.len
  have hbs := h.own b h.inS.1
  have hnew : w1.heap.size < w2.heap.size := (hg.runs.row.head _ rfl).2.2
  have hB : B ≤ w1.heap.size := (hg.runs.row.head _ rfl).2.1
  refine ⟨⟨?_, ?_, hg.runs.row, .inr ⟨hg.runs.tree, hg.runs.size⟩, hg.runs.few, hg.runs.small, fun q hq => ?_, fun q hq => ?_, h.inv.congr (fun j => more_get F n j) (fun _ => Iff.rfl) (fun _ => rfl), by have := hg.room; omega, ⟨by omega, h.limit.2⟩, h.first, h.rising, fun s' hs' => by have := h.below s' hs'; omega, h.segs, ?_, fun j hj => ?_, ?_⟩, hall⟩
  · rw [hg.block]
    unfold poolCells
    rw [hlen, count_append, hTl]
    rfl
  · exact (h.starts.only o1 (fun g hg' e => h.apart.1 g hg' e)).only hg.only (fun g hg' e => h.apart.1 g hg' e)
  · rw [hg.leaf q hq]
    unfold wide
    split
    · rename_i hq2; exact h.leaf q hq2
    · rename_i hq2; rw [h.rest q (by omega)]; rfl
  · exact h.rest q (by have := hg.room; omega)
  · refine ⟨.inl h.inS.1, fun g hg' => .inl (h.inS.2.1 g hg'), fun g hg' => ?_⟩
    cases hg'
    right
    exact ⟨by simp only; omega, hnew⟩
  · rcases hj with hj | hj
    · have := h.own j hj
      exact ⟨this.1, Nat.lt_of_lt_of_le this.2 hall.size⟩
    · omega
  · refine ⟨h.apart.1, fun g hg' e2 => ?_, fun g g' hg1 hg2 e2 => ?_⟩
    · cases hg'
      simp only at e2
      omega
    · cases hg2
      have := (h.starts.head g hg1).2.2
      simp only at e2
      omega
end
end Go.Proofs.Ytaplfibhhdngbaa.pools
/- Take at the top, walked. -/
namespace Go.Proofs.Ytaplfibhhdngbaa.pools
section
open Go.RowKit Go.Proofs.Ytaplfibhhdngbaa.own Go.Proofs.Ytaplfibhhdngbaa.trees Go.Proofs.Ytaplfibhhdngbaa.rows
variable {Sm S : Nat → Prop} {B b k sz : Nat} {so : Option Addr} {scap : Nat} {ao : Option Addr} {cap : Nat} {T : List Int} {f : Nat → Nat} {lim : Nat} {F : List Bool} {St : List Nat} {w w' : World} {o : Nat}
theorem Pow.of (hk : sz = 2 ^ k) (hs : sz ≤ 1048576) : Pow sz := by
  refine ⟨k, hk, ?_⟩
  rcases Nat.lt_or_ge 20 k with h | h
  · have : 2 ^ 21 ≤ 2 ^ k := Nat.pow_le_pow_right (by omega) (by omega)
    simp at this
    omega
  · exact h
theorem PoolAt.room_for (h : PoolAt Sm S B b k sz so scap ao cap T f lim F St w) {n : Nat} {w1 : World} (hl : F.length + n ≤ lim) (hn : 1 ≤ n) (e : w1 = w.setCell ⟨b, 1, none⟩ (.int .i64 ((F.length + n : Nat) : Int))) :
    Calls Try.prog 41 #[.pointer (some ⟨b, 3, none⟩), .int .i64 ((F.length + n : Nat) : Int)] w1 fun e w2 => e = .returned (.tuple #[]) ∧ ∃ k' s' ao' cap' T', PoolAt Sm (Grew S w w2) B b k' s' so scap ao' cap' T' f lim (F ++ List.replicate n false) St w2 ∧ Only S w w2 := by
  rcases Nat.lt_or_ge sz (F.length + n) with hs | hs
  · have hbl : w1.heap[b]? = some (.cells (#[.int .i64 lim, .int .i64 ((F.length + n : Nat) : Int), .slice so St.length scap, .int .i64 sz, .slice ao T.length cap, .int .i64 (count F)]) 56 (0, 0)) := by
      subst e
      rw [blk_set h.blk 1 _]
      rfl
    have o1 : Only (· = b) w w1 := by subst e; exact Only.setCell (S := (· = b)) w (p := ⟨b, 1, none⟩) rfl _
    have hlim := h.limit.2
    have hbs := h.own b h.inS.1
    have hlenT : T.length = 2 * sz := by
      rcases h.tree with ⟨h0, _, _, h1⟩ | ⟨h1, h2⟩
      · subst h0 h1; rfl
      · rw [h1.len, h2]
    refine (grow_any (o := 3) (if sz = 0 then 1 else sz) (F.length + n) _ 56 (h.most.only o1 (fun g hg e => h.apart.2.1 g hg e)) h.small hlenT hbl (by simp) rfl rfl (by have := o1.size; omega) rfl ?_ hs (by omega) ?_).mono ?_
    · rcases h.tree with ⟨h0, _⟩ | ⟨h1, h2⟩
      · rw [if_pos h0]; exact ⟨0, rfl, by omega⟩
      · have := pow_pos2 k
        rw [if_neg (by omega)]
        exact Pow.of h2 h.few
    · intro h0
      rcases h.tree with ⟨_, h1, h2, _⟩ | ⟨h1, h2⟩
      · exact ⟨h1, h2⟩
      · have := pow_pos2 k; omega
    · rintro e2 w2 ⟨rfl, k', s', T', hG⟩
      exact ⟨rfl, k', s', _, _, T', h.grown hl hs e hG⟩
  · have hm := h.more hl hs e
    refine (grow_none (sz := sz) (F.length + n) hm.1.c3 hs).mono ?_
    rintro e2 w2 ⟨rfl, rfl⟩
    have hP := hm.1
    refine ⟨rfl, k, sz, ao, cap, T, ⟨hP.blk, hP.starts, hP.most, hP.tree, hP.few, hP.small, hP.leaf, hP.rest, hP.inv, hP.room, hP.limit, hP.first, hP.rising, hP.below, hP.segs, ⟨.inl hP.inS.1, fun g hg => .inl (hP.inS.2.1 g hg), fun g hg => .inl (hP.inS.2.2 g hg)⟩, fun j hj => ?_, hP.apart⟩, hm.2⟩
    rcases hj with hj | hj
    · exact hP.own j hj
    · have := (h.own b h.inS.1)
      omega
set_option maxRecDepth 100000 in
theorem take_top (n : Nat) (hn : 1 ≤ n) (h : PoolAt Sm S B b k sz so scap ao cap T f lim F St w) (hz : ∀ q, lastOf St ≤ q → f q < n) (hf : F.length + n ≤ lim) :
    Calls Try.prog 12 #[.pointer (some ⟨b, 0, none⟩), .int .i64 n] w fun e w' => e = .returned (.tuple #[.int .i64 F.length, .int .i64 0]) ∧ ∃ k' s' ao' cap' T', PoolAt Sm (Grew S w w') B b k' s' so scap ao' cap' T' f lim (F ++ List.replicate n false) St w' ∧ Only S w w' := by
  have HC := Lib.hid (closed_no h)
  have H := Lib.hid h
  have hone := h.one
  have hsg := h.segs
  have hlim := h.limit
  have c0 := h.c0
  have c1 := h.c1
  have c2 := h.c2
  have g1 := free_of_blk h.blk 1
  obtain ⟨g, rfl, _⟩ := h.start 0 0 h.first
  have cs := start_cell h.starts (St.length - 1) (by omega)
  change w.cell? _ = some (.int .i64 (lastOf St : Int)) at cs
  have hn2 : ¬ ((n : Int) < 1) := by omega
  have HQ1 : Hid (∀ N, Calls Try.prog 39 #[.pointer (some ⟨b, 0, none⟩)] (w.drewN N) fun e w' => e = .returned (.int .i64 ((St.length - 1 : Nat) : Int)) ∧ w' = w.drewN N) := Lib.hid (fun N => (last_seg (H.out.drewN N)).mono (fun _ _ hh => ⟨hh.1, hh.2.symm⟩))
  have HQ2 : Hid (∀ N, Calls Try.prog 38 #[.pointer (some ⟨b, 3, none⟩), .int .i64 (lastOf St), .int .i64 n] (w.drewN N) fun e w' => e = .returned (.int .i64 (-1)) ∧ w' = w.drewN N) := Lib.hid (fun N => first_none n (lastOf St) hn (by omega) (H.out.drewN N) hz)
  have hi1 : ((St.length - 1 : Nat) : Int) < (St.length : Int) := by omega
  have hfi : ¬ ((n : Int) > (lim : Int) - (F.length : Int)) := by omega
  have HRm := Lib.hid (fun N w1 e => PoolAt.room_for (w1 := w1) (H.out.drewN N) hf hn e)
  clear h hz
  generalize hm : St.length - 1 = m at *
  generalize lastOf St = s0 at *
  go_enter Try.func12, Try.ntmps12
  go_wp2_with fail
  refine HC.out.mono ?_
  rintro e w1 ⟨rfl, rfl⟩
  go_wp2_with fail
  go_quiet (first | (go_at_call 39; exact Calls.quiet_of_same (HQ1.out _)) | (go_at_call 38; exact Calls.quiet_of_same (HQ2.out _)))
  generalize nq = N1 at *
  go_wp2_with fail
  go_quiet (fail)
  rw [World.drewN_drewN]
  generalize N1 + nq = N at *
  go_wp2_with fail
  have d1 : ((w.drewN N).setCell ⟨b, 1, none⟩ (.int .i64 ((F.length : Int) + (n : Int)))).cell? ⟨b, 1, none⟩ = some (.int .i64 ((F.length : Int) + (n : Int))) := by
    rw [cell_of_blk (blk_set (H.out.drewN N).blk 1 _)]; rfl
  have HRm2 := HRm.out (N + 1) (((w.drewN N).setCell ⟨b, 1, none⟩ (.int .i64 ((F.length : Int) + (n : Int)))).drew) (by rw [show ((F.length + n : Nat) : Int) = (F.length : Int) + (n : Int) by omega]; rfl)
  rw [show ((F.length + n : Nat) : Int) = (F.length : Int) + (n : Int) by omega] at HRm2
  have HRm3 := Lib.hid HRm2
  clear c0 c1 c2 cs g1 HRm HRm2
  generalize (w.drewN N).setCell ⟨b, 1, none⟩ (.int .i64 ((F.length : Int) + (n : Int))) = w5 at *
  go_still_tail 7, (by kernel_rfl)
  change wpList _ _ _ _ _ w5.drew
  go_wp2_with fail
  refine HRm3.out.mono ?_
  rintro e w6 ⟨rfl, k', s', ao', cap', T', hP, ho⟩
  go_wp2_with fail
  go_ret2
  refine ⟨rfl, k', s', ao', cap', T', ?_, ?_⟩
  · exact hP
  · exact (Only.drewN S w (N + 1)).same ho
end
end Go.Proofs.Ytaplfibhhdngbaa.pools
