/- Order: terms of places, copied. -/
import Derived.Test.YtgedhmnkhoajbaaOrder5
namespace Go.Proofs.Ytgedhmnkhoajbaa.orders
open Go.RowKit Go.Proofs.Ytgedhmnkhoajbaa.own Go.Maps Go.Proofs.Ytgedhmnkhoajbaa.terms
def atL (l : List T) (p : Int) : T := l.getD p.toNat default
/-- The copies under way: the first j are there. -/
structure Copies (w : World) (l : List T) (pl : List Int) (xs : List It) (j : Nat) (W : World) : Prop where
  len : xs.length = pl.length
  row : ItsP w.heap.size (some ⟨w.heap.size, 0, none⟩) pl.length xs W
  own : Only (fun _ => False) w W
  done_ : ∀ (i : Nat) (x : It), i < j → xs[i]? = some x → (∃ p, pl[i]? = some p ∧ x.t = atL l p) ∧ x.t.Sane ∧ Row (fun q => q < W.heap.size ∧ q ≠ w.heap.size) W x.ao x.t.l
theorem Copies.step {w W w2 : World} {l : List T} {pl : List Int} {xs : List It} {j : Nat} (h : Copies w l pl xs j W) {p : Int} (hp : pl[j]? = some p) (ho : Only (fun _ => False) W w2) (y : It) (hy : y.t = atL l p) (hs : y.t.Sane) (hrow : Row (fun q => W.heap.size ≤ q ∧ q < w2.heap.size) w2 y.ao y.t.l) : Copies w l pl (xs.set j y) (j + 1) (storedT w2 w.heap.size j y) := by
  have hj := (List.getElem?_eq_some_iff.1 hp).1
  obtain ⟨hr, o3⟩ := item_stored (h.row.only ho (fun _ _ e => e)) (by rw [h.len]; exact hj) y
  have hg : w.heap.size < W.heap.size := (h.row.head _ rfl).2.2
  have s1 := ho.size
  have s3 := o3.size
  refine ⟨by rw [List.length_set]; exact h.len, hr, Only.cut (h.own.same ho) o3 (fun k e => by omega), fun i x hi hx => ?_⟩
  rw [List.getElem?_set] at hx
  by_cases e : j = i
  · subst e
    rw [if_pos rfl, if_pos (by rw [h.len]; exact hj)] at hx
    cases hx
    refine ⟨⟨p, hp, hy⟩, hs, (hrow.only o3 (fun q hq => hq.2) (fun q hq e => by have := hq.1; omega)).mono (fun q hq => ⟨by have := hq.2; omega, by have := hq.1; omega⟩)⟩
  · rw [if_neg e] at hx
    obtain ⟨h1, h2, h3⟩ := h.done_ i x (by omega) hx
    refine ⟨h1, h2, ((h3.only ho (fun q hq => hq.1) (fun _ _ e => e)).only o3 (fun q hq => by have := hq.1; omega) (fun q hq e => hq.2 e)).mono (fun q hq => ⟨by have := hq.1; omega, hq.2⟩)⟩
theorem infoT_parts : ∃ i, Try.prog.info? 24 = some i ∧ i.zero = some (.agg #[.int .i64 0, .int .i64 0, .string ⟨#[]⟩, .slice none 0 0]) ∧ i.size = 4 ∧ i.bytes = 56 := by
  have := infoT
  cases hi : Try.prog.info? 24 with
  | none => rw [hi] at this; cases this
  | some i => rw [hi] at this; simp at this; exact ⟨i, rfl, this.1, this.2.1, this.2.2⟩
set_option maxRecDepth 100000 in
set_option maxHeartbeats 4000000 in
theorem clones_any (l : List T) (pl : List Int) (w : World) (lo : Option Addr) (lc g0 cap0 B0 : Nat) (hl : Lies w lo l) (hok : ∀ x ∈ l, x.Ok) (hp : Ints B0 (some ⟨g0, 0, none⟩) cap0 pl w) (hlow : ∀ p ∈ pl, 0 ≤ p ∧ p < l.length) (hn : pl.length ≤ 1000000) :
    Calls Try.prog 32 #[.slice lo l.length lc, .slice (some ⟨g0, 0, none⟩) pl.length cap0] w fun e w' => ∃ g cap, e = .returned (.slice (some ⟨g, 0, none⟩) pl.length cap) ∧ Lies w' (some ⟨g, 0, none⟩) (pl.map (atL l)) ∧ Only (fun _ => False) w w' := by
  obtain ⟨i0, hi, hz0, hz1, hz2⟩ := infoT_parts
  have HL := Lib.hid hl
  have HP := Lib.hid hp
  have HLOW := Lib.hid hlow
  have HOK := Lib.hid hok
  clear hl hok hp hlow
  go_enter Try.func32, Try.ntmps32
  go_wp2_with (first
    | (at_make; refine wpList_make_full _ rfl _ _ 22 rfl w.heap.size 24 i0 _ 4 Try.underlying22 hi hz0 hz1 .i64 .i64 _ _ pl.length rfl rfl rfl rfl (by rw [hz2]; omega) (by unfold maxLen; omega) (Nat.le_refl _) ?_; intro w3 hown3 hgrow3; rw [made_its] at hown3
       have HI0 : Hid (Copies w l pl (List.replicate pl.length default) 0 w3) := Lib.hid ⟨by simp, by unfold ItsP RowOf; rw [List.length_replicate]; simpa using hown3, (Only.grown hgrow3).mono (fun _ _ e => by cases e), fun i x hi => by omega⟩
       clear hown3 hgrow3)
    | fail)
  go_loopw [13] (fun i wr => ∃ (j : Nat) (xs : List It), i = .int .i64 j ∧ j ≤ pl.length ∧ Hid (Copies w l pl xs j wr)) (fun i _ => pl.length - (intOf i).toNat)
  case atStart => exact ⟨0, _, rfl, by omega, HI0⟩
  case round =>
    obtain ⟨j, xs, rfl, hj, hI⟩ := hrel
    clear HI0
    by_cases hlt : j < pl.length
    · obtain ⟨p, hpj⟩ : ∃ p, pl[j]? = some p := ⟨_, List.getElem?_eq_getElem hlt⟩
      have hpl := HLOW.out p (List.mem_of_getElem? hpj)
      obtain ⟨g', hg, _, hc⟩ := (HP.out.only hI.out.own (fun _ _ e => e)).at liesN j p hpj
      cases hg
      have k0 := (hc 0 (by omega)).1
      simp only [encN, List.getElem?_cons_zero, Nat.mul_one, Nat.add_zero] at k0
      obtain ⟨q, rfl⟩ : ∃ q : Nat, p = (q : Int) := ⟨p.toNat, by omega⟩
      obtain ⟨x, hx⟩ : ∃ x, l[q]? = some x := ⟨_, List.getElem?_eq_getElem (by omega)⟩
      have hat : x = atL l (q : Int) := by
        unfold atL
        rw [Int.toNat_natCast, List.getD_eq_getElem?_getD, hx]
        rfl
      obtain ⟨b, off, xo, xc, rfl, hb, t0, t1, t2, t3, hxs, hxl⟩ := (HL.out.later hI.out.own).at hx
      have HX := Lib.hid (And.intro hxs hxl)
      have HXK := Lib.hid (HOK.out x (List.mem_of_getElem? hx))
      have HAT := Lib.hid hat
      have HPJ := Lib.hid hpj
      have hj0 : (0 : Int) ≤ (j : Int) := by omega
      have hj1 : (j : Int) < (pl.length : Int) := by omega
      have hq0 : (0 : Int) ≤ (q : Int) := by omega
      have hq1 := hpl.2
      clear hc hx hxs hxl hat hpj hpl
      go_wp2_with fail
      refine (Clone_ok x _ xo xc HX.out.2 HX.out.1 HXK.out).mono ?_
      rintro e w4 ⟨ao', cap', rfl, hrow, ho4⟩
      have HS4 := Lib.hid (hI.out.step HPJ.out ho4 ⟨x, ao', cap'⟩ HAT.out HX.out.1 hrow)
      obtain ⟨y0, hy0⟩ : ∃ y0, xs[j]? = some y0 := ⟨_, List.getElem?_eq_getElem (by rw [hI.out.len]; exact hlt)⟩
      obtain ⟨g', hg', _, hcell⟩ := (hI.out.row.only ho4 (fun _ _ e => e)).at liesIt j y0 hy0
      cases hg'
      have q0 := hcell 0 (by omega)
      have q1 := hcell 1 (by omega)
      have q2 := hcell 2 (by omega)
      have q3 := hcell 3 (by omega)
      simp only [encIt, List.getElem?_cons_zero, List.getElem?_cons_succ, Nat.add_zero] at q0 q1 q2 q3
      obtain ⟨q0, z0⟩ := q0
      obtain ⟨q1, z1⟩ := q1
      obtain ⟨q2, z2⟩ := q2
      obtain ⟨q3, z3⟩ := q3
      clear hrow ho4 hcell hy0 t0 t1 t2 t3 k0
      go_wp2_with fail
      go_roundw
      case rel => exact ⟨j + 1, _, by go_num, by omega, HS4⟩
      case measure => simp [intOf]; omega
    · obtain rfl : j = pl.length := by omega
      have HE : Hid (Lies wr (some ⟨w.heap.size, 0, none⟩) (pl.map (atL l))) := by
        have h := hI.out
        have hmap : xs.map (·.t) = pl.map (atL l) := by
          apply List.ext_getElem?
          intro i
          rw [List.getElem?_map, List.getElem?_map]
          cases hx : xs[i]? with
          | none =>
            have : pl[i]? = none := by
              rw [List.getElem?_eq_none_iff] at hx ⊢
              rw [← h.len]; exact hx
            rw [this]; rfl
          | some x =>
            have hi := (List.getElem?_eq_some_iff.1 hx).1
            obtain ⟨⟨p, hp, ht⟩, _⟩ := h.done_ i x (by rw [← h.len]; exact hi) hx
            rw [hp]
            simp [ht]
        have hr := h.row.row (P := fun q => q < wr.heap.size) (h.row.head _ rfl).2.2 (fun i x hx => ⟨(h.done_ i x (by have := (List.getElem?_eq_some_iff.1 hx).1; rw [h.len] at this; exact this) hx).2.1, ((h.done_ i x (by have := (List.getElem?_eq_some_iff.1 hx).1; rw [h.len] at this; exact this) hx).2.2).mono (fun q hq => hq.1)⟩)
        rw [hmap] at hr
        exact Lib.hid hr
      go_wp2_with fail
      go_ret
      exact ⟨_, _, rfl, HE.out, hI.out.own⟩
end Go.Proofs.Ytgedhmnkhoajbaa.orders
