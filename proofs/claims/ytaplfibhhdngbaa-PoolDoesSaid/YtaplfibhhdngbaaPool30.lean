/- The law PoolOnce: what it holds, and its array. -/
import Derived.Test.YtaplfibhhdngbaaPool29
import Derived.Test.YtaplfibhhdngbaaPoolArgs
import Derived.Test.YtaplfibhhdngbaaPoolMath5
namespace Go.Proofs.Ytaplfibhhdngbaa.pools
open Go.RowKit Go.Proofs.Ytaplfibhhdngbaa.own Go.Proofs.Ytaplfibhhdngbaa.trees Go.Proofs.Ytaplfibhhdngbaa.rows Go.Proofs.Ytaplfibhhdngbaa.frames
section
variable {Sm S : Nat → Prop} {B b k sz : Nat} {so : Option Addr} {scap : Nat} {ao : Option Addr} {cap : Nat} {T : List Int} {f : Nat → Nat} {lim : Nat} {F : List Bool} {St : List Nat} {w w' : World}
set_option maxRecDepth 100000 in
theorem free_q (a : Int) (h : PoolAt Sm S B b k sz so scap ao cap T f lim F St w) :
    Calls Try.prog 19 #[.pointer (some ⟨b, 0, none⟩), .int .i64 a] w fun e w' => e = .returned (.bool (isFree F a)) ∧ ∃ m, w' = w.drewN m := by
  have H := Lib.hid h
  have HC := Lib.hid (closed_no h)
  have HH := Lib.hid (has_any h a)
  by_cases hin : 0 ≤ a ∧ a < (F.length : Int)
  · obtain ⟨n, rfl⟩ : ∃ n : Nat, a = n := ⟨a.toNat, by omega⟩
    have hn : n < F.length := by omega
    have hr := h.room
    have hsz : 0 < sz := by omega
    have hf := h.few
    have HR := Lib.hid (h.runsF hsz)
    have e1 : isFree F (n : Int) = F.getD n false := by unfold isFree; rw [if_pos (by omega)]; rfl
    rw [e1]
    have hd : decide (0 ≤ (n : Int) ∧ (n : Int) < (F.length : Int)) = true := by simp; omega
    rw [hd] at HH
    have HI := Lib.hid h.inv
    have HSM := Lib.hid (fun q => show f q ≤ 1048576 from by
      rcases Nat.lt_or_ge q sz with hq | hq
      · have := h.leaf q hq; have := h.small (sz + q); omega
      · rw [h.rest q hq]; omega)
    clear h hd e1 hin
    go_enter Try.func19, Try.ntmps19
    go_wp2_with fail
    refine HC.out.mono ?_
    rintro e w1 ⟨rfl, rfl⟩
    go_wp2_with fail
    refine HH.out.mono ?_
    rintro e w1 ⟨rfl, rfl⟩
    go_wp2_with fail
    refine (last_f n HR.out (by omega)).mono ?_
    rintro e w1 ⟨⟨r, rfl, hr⟩, rfl⟩
    rcases hr with ⟨rfl, hz⟩ | ⟨p, rfl, h1, h2, h3⟩
    · have hF : F.getD n false = false := HI.out.none_tells (fun q hq => hz q hq)
      go_wp2_with fail
      go_ret
      exact ⟨by rw [hF]; rfl, 0, rfl⟩
    · have hF := HI.out.tells h1 h2 h3
      have hs := HSM.out p
      have hpm : ((p : Int) == -1) = false := by simp
      go_wp2_with fail
      refine (at_fq p (by omega) HR.out).mono ?_
      rintro e w1 ⟨rfl, ho⟩
      have hx : ((n : Int) < (p : Int) + (f p : Int)) ↔ n < p + f p := by omega
      have hans : decide ((n : Int) < (p : Int) + (f p : Int)) = F.getD n false := by
        cases hb : F.getD n false with
        | true => simp only [hb, true_iff] at hF; simp; omega
        | false => simp only [hb] at hF; simp at hF; simp; omega
      clear hx hF h3 h2
      generalize f p = c at *
      have hpm2 : ((p : Int) != -1) = true := by simp
      go_wp2_with fail
      go_ret
      refine ⟨?_, ho⟩
      first | exact congrArg (fun x => Ending.returned (Value.bool x)) hans | (simp [hans]; rw [List.getElem?_eq_getElem hn]; rfl)
  · have e1 : isFree F a = false := by
      unfold isFree
      split
      · rw [List.getD_eq_getElem?_getD, List.getElem?_eq_none (by omega)]; rfl
      · rfl
    rw [e1]
    have hd : decide (0 ≤ a ∧ a < (F.length : Int)) = false := by simpa using hin
    rw [hd] at HH
    clear h hin e1 hd
    go_enter Try.func19, Try.ntmps19
    go_wp2_with fail
    refine HC.out.mono ?_
    rintro e w1 ⟨rfl, rfl⟩
    go_wp2_with fail
    refine HH.out.mono ?_
    rintro e w1 ⟨rfl, rfl⟩
    go_wp2_with fail
    go_ret
    exact ⟨rfl, 0, rfl⟩
end
variable {S : Nat → Prop} {b lim : Nat} {F F' : List Bool} {Ss Ss' : List Nat} {w0 w w' : World}
theorem free_pq (a : Int) {B : Nat} (h : Pool S B b lim F Ss w) : Calls Try.prog 19 #[.pointer (some ⟨b, 0, none⟩), .int .i64 a] w fun e w' => e = .returned (.bool (isFree F a)) ∧ ∃ m, w' = w.drewN m := by
  obtain ⟨k, sz, so, scap, ao, cap, T, f, h⟩ := h
  exact free_q a h
theorem Pool.drewN {B : Nat} (h : Pool S B b lim F Ss w) (n : Nat) : Pool S B b lim F Ss (w.drewN n) := h.only (Only.drewN _ _ _)
def zs400 : Array Value := Array.replicate 400 (.bool false)
theorem z400 : Try.t35.zero = some (.agg zs400) := by kernel_rfl
theorem zero400 (w : World) : (zeroValue 35).run Try.prog w = .ok (.agg zs400) w := by simp [zeroValue, z400]
/-- The law's array. -/
def HeldAt (g : Nat) (H : Nat → Bool) (w : World) : Prop := ∃ cs : Array Value, w.heap[g]? = some (.cells cs 35 (0, 0)) ∧ cs.size = 400 ∧ ∀ k, k < 400 → cs[k]? = some (.bool (H k))
theorem HeldAt.init (w : World) : HeldAt w.heap.size (fun _ => false) (w.alloc (.cells zs400 35)) := by
  refine ⟨zs400, heap_alloc_new w _, by simp [zs400], fun k hk => ?_⟩
  unfold zs400
  rw [Array.getElem?_replicate, if_pos hk]
variable {g : Nat} {H H' : Nat → Bool}
theorem HeldAt.cell (h : HeldAt g H w) (k : Nat) (hk : k < 400) : w.cell? ⟨g, k, none⟩ = some (.bool (H k)) := by
  obtain ⟨cs, h1, h2, h3⟩ := h
  rw [cell_of_blk h1]; exact h3 k hk
theorem HeldAt.free (h : HeldAt g H w) (k : Nat) : w.frozen? ⟨g, k, none⟩ = false := by
  obtain ⟨cs, h1, h2, h3⟩ := h
  exact free_of_blk h1 k
theorem HeldAt.lt (h : HeldAt g H w) : g < w.heap.size := by
  obtain ⟨cs, h1, h2, h3⟩ := h
  exact lt_of_block h1
theorem HeldAt.only {Q : Nat → Prop} (h : HeldAt g H w) (ho : Only Q w w') (hq : ¬ Q g) : HeldAt g H w' := by
  have hl := h.lt
  obtain ⟨cs, h1, h2, h3⟩ := h
  exact ⟨cs, by rw [ho.block g hl hq]; exact h1, h2, h3⟩
theorem HeldAt.put (h : HeldAt g H w) (k : Nat) (hk : k < 400) (v : Bool) (hH : ∀ j, j < 400 → H' j = if j = k then v else H j) : HeldAt g H' (w.setCell ⟨g, k, none⟩ (.bool v)) ∧ Only (· = g) w (w.setCell ⟨g, k, none⟩ (.bool v)) := by
  obtain ⟨cs, h1, h2, h3⟩ := h
  refine ⟨⟨cs.setIfInBounds k (.bool v), blk_set h1 k _, by simp [h2], fun j hj => ?_⟩, Only.setCell (S := (· = g)) w (p := ⟨g, k, none⟩) rfl _⟩
  rw [hH j hj]
  by_cases e : j = k
  · subst e
    rw [if_pos rfl, Array.getElem?_setIfInBounds_self_of_lt (by omega)]
  · rw [if_neg e, Array.getElem?_setIfInBounds_ne (fun h => e h.symm)]; exact h3 j hj
theorem HeldAt.congr (h : HeldAt g H w) (hH : ∀ j, j < 400 → H' j = H j) : HeldAt g H' w := by
  obtain ⟨cs, h1, h2, h3⟩ := h
  exact ⟨cs, h1, h2, fun j hj => by rw [hH j hj]; exact h3 j hj⟩
/-- A pool, and the array that says which cells are taken; the world came of w0. -/
structure OnceI (S : Nat → Prop) (b g : Nat) (F : List Bool) (Ss : List Nat) (w0 w : World) : Prop where
  pool : St S b 400 F Ss w0 w
  held : HeldAt g (tk F) w
  far : ¬ S g
  high : w0.heap.size ≤ g
theorem OnceI.grown (h : OnceI S b g F Ss w0 w) (hp : St (Grew S w w') b 400 F' Ss' w0 w') (ho : Only S w w') : St (Grew S w w') b 400 F' Ss' w0 w' ∧ HeldAt g (tk F) w' ∧ ¬ Grew S w w' g := by
  refine ⟨hp, h.held.only ho h.far, ?_⟩
  have := h.held.lt
  rintro (e | e)
  · exact h.far e
  · omega
/-- Behind a step that turned the array alone. -/
theorem St.beside (h : St S b lim F Ss w0 w) (ho : Only (· = g) w w') (hf : ¬ S g) (hg : w0.heap.size ≤ g) : St S b lim F Ss w0 w' :=
  ⟨h.pool.far ho (fun j hj e => hf (e ▸ hj)), h.below.trans (ho.below h.below.size (fun j _ e => by rw [e]; exact hg))⟩
theorem _root_.Go.Proofs.Ytaplfibhhdngbaa.frames.ArgOps.cell {W : World} {ao : Option Addr} {os : List OpP} (h : ArgOps W ao os) (i : Nat) (hi : i < os.length) : ∃ b off o, os[i]? = some o ∧ ao = some ⟨b, off, none⟩ ∧ Fits o.k ∧ Fits o.a ∧ Fits o.n ∧ ∀ w, Below W.heap.size W w → w.cell? ⟨b, off + i * 3, none⟩ = some (.int .i64 o.k) ∧
    w.cell? ⟨b, off + i * 3 + 1, none⟩ = some (.int .i64 o.a) ∧ w.cell? ⟨b, off + i * 3 + 2, none⟩ = some (.int .i64 o.n) := by
  obtain ⟨b, off, t, h1, h2, h3, h4, h5, h6, h7⟩ := h.at_ i hi
  exact ⟨b, off, t, h1, h2, h7.1, h7.2.1, h7.2.2, fun w hb => ⟨(hb.cell (p := ⟨b, off + i * 3, none⟩) h3).trans h4, (hb.cell (p := ⟨b, off + i * 3 + 1, none⟩) h3).trans h5, (hb.cell (p := ⟨b, off + i * 3 + 2, none⟩) h3).trans h6⟩⟩
/-- A call's description, in a block of the law's own. -/
structure OpAt (ob : Nat) (a n : Int) (w : World) : Prop where
  c1 : w.cell? ⟨ob, 1, none⟩ = some (.int .i64 a)
  c2 : w.cell? ⟨ob, 2, none⟩ = some (.int .i64 n)
theorem OpAt.lt {ob : Nat} {a n : Int} (h : OpAt ob a n w) : ob < w.heap.size := lt_of_cell h.c1
theorem OpAt.only {ob : Nat} {a n : Int} {Q : Nat → Prop} (h : OpAt ob a n w) (ho : Only Q w w') (hq : ¬ Q ob) : OpAt ob a n w' :=
  ⟨(ho.cell (p := ⟨ob, 1, none⟩) h.lt hq).trans h.c1, (ho.cell (p := ⟨ob, 2, none⟩) h.lt hq).trans h.c2⟩
/-- The round's first step: the call's description is copied. -/
theorem OnceI.begun (h : OnceI S b g F Ss w0 w) (k a n : Int) {w4 : World} (e : w4 = w.alloc (.cells #[.int .i64 k, .int .i64 a, .int .i64 n] 32)) : OnceI S b g F Ss w0 w4 ∧ OpAt w.heap.size a n w4 ∧ ¬ S w.heap.size ∧ w.heap.size ≠ g := by
  have hb := heap_alloc_new w (.cells #[.int .i64 k, .int .i64 a, .int .i64 n] 32)
  rw [← e] at hb
  have ho : Only (fun _ => False) w w4 := by rw [e]; exact Only.alloc _ _ _
  refine ⟨⟨h.pool.still ho, h.held.only ho (fun e => e), h.far, h.high⟩, ⟨by rw [cell_of_blk hb]; rfl, by rw [cell_of_blk hb]; rfl⟩, fun e => ?_, fun e => ?_⟩
  · have := h.pool.pool.own _ e; omega
  · have := h.held.lt; omega
theorem OnceI.next (h : OnceI S b g F Ss w0 w) (hp : St (Grew S w w') b 400 F' Ss' w0 w') (ho : Only S w w') (ht : ∀ j, j < 400 → tk F' j = tk F j) : OnceI (Grew S w w') b g F' Ss' w0 w' := by
  have hg := h.grown hp ho
  exact ⟨hp, hg.2.1.congr ht, hg.2.2, h.high⟩
theorem last_get {n : Nat} (h : Ss.length = n + 1) : Ss[n]? = some (lastOf Ss) := by
  have hl : n < Ss.length := by omega
  unfold lastOf
  rw [h, Nat.add_sub_cancel, List.getD_eq_getElem?_getD, List.getElem?_eq_getElem hl]
  rfl
theorem OnceI.still (h : OnceI S b g F Ss w0 w) (ho : Only (fun _ => False) w w') : OnceI S b g F Ss w0 w' := ⟨h.pool.still ho, h.held.only ho (fun e => e), h.far, h.high⟩
theorem tk_out {j : Nat} (h : F.length ≤ j) : tk F j = false := tk_false.2 (.inl h)
theorem tk_in {j : Nat} (h : j < F.length) : tk F j = !F.getD j false := by
  unfold tk
  rw [decide_eq_true h, Bool.true_and]
theorem isFree_nat (j : Nat) : isFree F (j : Int) = F.getD j false := by
  unfold isFree
  rw [if_pos (by omega), Int.toNat_natCast]
end Go.Proofs.Ytaplfibhhdngbaa.pools
