
/- Terms: further. -/
import Derived.Test.YtoogmlgaeipenaaTerm60
import Derived.Test.YtoogmlgaeipenaaTermD
import Derived.RegionTactic
import Derived.BigQuiet
import Derived.RangeFuncOwn
import Derived.StillTailTactics
namespace Go.Proofs.Ytoogmlgaeipenaa.terms
set_option maxRecDepth 100000
open Go.RowKit Go.Proofs.Ytoogmlgaeipenaa.own Go.Maps
/-- Lists under way beside a set of rows. -/
structure WaysM (w : World) (m : Nat) (so : Option Addr) (sc : Nat) (xs : List Ls) (wr : World) : Prop where
  row : LsP w.heap.size so sc xs wr
  own : Only (fun k => k = m) w wr
  lies : ∀ x ∈ xs, Row (fun k => k < w.heap.size ∧ k ≠ m) w x.ao x.l ∧ x.l.length ≤ maxLen
  set : SetC w.heap.size m wr
theorem not_row {w : World} {m : Nat} {so : Option Addr} {sc : Nat} {xs : List Ls} {wr : World} (h : WaysM w m so sc xs wr) : ¬ RowAt so m := by
  rintro ⟨g, rfl, e⟩
  obtain ⟨cur, hb⟩ := ls_block h.row
  obtain ⟨es, clock, hm, _⟩ := h.set
  subst e
  rw [hb] at hm
  cases hm
theorem WaysM.later {w : World} {m : Nat} {so : Option Addr} {sc : Nat} {xs : List Ls} {wr w' : World} (h : WaysM w m so sc xs wr) (ho : Only (fun _ => False) wr w') : WaysM w m so sc xs w' :=
  ⟨h.row.only ho (fun _ _ e => e), h.own.same (ho.mono (fun _ _ e => e.elim)), h.lies, h.set.only ho (fun e => e) (fun _ _ e => e)⟩
set_option maxRecDepth 100000 in
set_option maxHeartbeats 4000000 in
theorem further_any (w : World) (m : Nat) (x : Ls) (hxl : Row (fun k => k < w.heap.size ∧ k ≠ m) w x.ao x.l) (hxz : sizes x.l ≤ 1000000) (so : Option Addr) (sc : Nat) (xs : List Ls) (w5 : World) (hW : WaysM w m so sc xs w5) (hz : wt xs ≤ 1000000) :
    Calls Try.prog 113 #[.slice so xs.length sc, .slice x.ao x.l.length x.cap, .map (some m)] w5 fun e w' => ∃ so' sc' zs, e = .returned (.slice so' (zs : List Ls).length sc') ∧ WaysM w m so' sc' zs w' ∧ wt zs ≤ wt xs + sizes x.l ∧ Only (fun k => RowAt so k ∨ k = m) w5 w' ∧ (∀ k, RowAt so' k → RowAt so k ∨ w5.heap.size ≤ k) := by
  obtain ⟨i0, hi, hz0, hz1, hz2⟩ := info_parts infoL
  have HXL := Lib.hid hxl
  have hlen : x.l.length ≤ 1000000 := by have := sizes_bl x.l; omega
  have HZ : Hid (wt xs ≤ 1000000 ∧ sizes x.l ≤ 1000000) := Lib.hid ⟨hz, hxz⟩
  have HI0 : Hid (True ∧ wt xs ≤ wt xs + sizes (x.l.take 0) ∧ WaysM w m so sc xs w5 ∧ Only (fun k => RowAt so k ∨ k = m) w5 w5 ∧ (∀ k, RowAt so k → RowAt so k ∨ w5.heap.size ≤ k)) := Lib.hid ⟨True.intro, by omega, hW, Only.refl _ _, fun k hk => .inl hk⟩
  clear hxl hxz hW hz
  go_enter Try.func113, Try.ntmps113
  go_wp2_with fail
  go_loopw [0, 14] (fun v0 i W => ∃ (j m' : Nat) (so' : Option Addr) (sc' : Nat) (zs : List Ls), i = .int .i64 j ∧ j ≤ x.l.length ∧ v0 = .slice so' m' sc' ∧ Hid (zs.length = m' ∧ wt zs ≤ wt xs + sizes (x.l.take j) ∧ WaysM w m so' sc' zs W ∧ Only (fun k => RowAt so k ∨ k = m) w5 W ∧ (∀ k, RowAt so' k → RowAt so k ∨ w5.heap.size ≤ k))) (fun _ i _ => x.l.length - (intOf i).toNat)
  case atStart => exact ⟨0, _, _, _, xs, rfl, by omega, rfl, Lib.hid ⟨rfl, HI0.out.2⟩⟩
  case round =>
    obtain ⟨j, m', so', sc', zs, rfl, hj, rfl, hI⟩ := hrel
    clear HI0
    by_cases hlt : j < x.l.length
    · obtain ⟨y, hy⟩ : ∃ y, x.l[j]? = some y := ⟨_, List.getElem?_eq_getElem hlt⟩
      obtain ⟨b, off, yo, yc, hxo, hb, d0, d1, d2, d3, hysane, hyl⟩ := HXL.out.at hy
      have hcell : ∀ r, (wr.cell? ⟨b, off + j * 4 + r, none⟩) = w.cell? ⟨b, off + j * 4 + r, none⟩ := fun r => hI.out.2.2.1.own.cell (p := ⟨b, off + j * 4 + r, none⟩) hb.1 hb.2
      have c0 : wr.cell? ⟨b, off + j * 4, none⟩ = some (.int .i64 y.k) := (hcell 0).trans d0
      have c1 := (hcell 1).trans d1
      have c2 := (hcell 2).trans d2
      have c3 := (hcell 3).trans d3
      rw [hxo]
      have HYS2 := Lib.hid hysane
      have HYL := Lib.hid hyl
      have HST := Lib.hid (show sizes (x.l.take (j + 1)) = sizes (x.l.take j) + y.size ∧ y.size = 1 + sizes y.l ∧ sizes (x.l.take j) ≤ sizes x.l from ⟨sizes_step hy, y.size_eq, sizes_take_le _ _⟩)
      have hj1 : (j : Int) < (x.l.length : Int) := by omega
      clear hysane hyl hy hcell d0 d1 d2 d3
      by_cases hn : y.l.length = 0
      · have hn0 : (((y.l.length : Int)) == 0) = true := by rw [hn]; rfl
        have HN := Lib.hid hn
        clear hn
        go_wp2_with fail
        have HJ2 := Lib.hid (Only.alloc (fun _ => False) wr (.cells #[.int .i64 y.k, .int .i64 y.n, .string y.s, .slice yo y.l.length yc] 24))
        go_roundw
        case rel => exact ⟨j + 1, m', so', sc', zs, by go_num, by omega, rfl, Lib.hid ⟨hI.out.1, by have h1 := hI.out.2.1; have h2 := HST.out; omega, hI.out.2.2.1.later HJ2.out, hI.out.2.2.2.1.same (HJ2.out.mono (fun _ _ e => e.elim)), hI.out.2.2.2.2⟩⟩
        case measure => simp [intOf]; omega
      · have hn0 : (((y.l.length : Int)) == 0) = false := by simpa using hn
        have hn1 : (0 : Int) < (y.l.length : Int) := by omega
        have hn2 : 0 < y.l.length := by omega
        obtain ⟨z, hz⟩ : ∃ z, y.l[0]? = some z := ⟨_, List.getElem?_eq_getElem (by omega)⟩
        obtain ⟨yb, yoff, zo, zc, rfl, hyb, e0, _⟩ := HYL.out.at hz
        have HCO : Hid (Cold w ⟨yb, yoff, none⟩ ∧ yb < w.heap.size ∧ yb ≠ m) := by
          have h1 := HYL.out.cold hz
          simp only [Nat.zero_mul, Nat.add_zero] at h1 e0
          obtain ⟨o, ho, hc⟩ := cells_of_cell e0
          cases o <;> simp [Obj.isCells] at hc
          exact Lib.hid ⟨⟨⟨_, _, _, ho⟩, h1⟩, hyb⟩
        have HJ2 := Lib.hid (Only.alloc (fun _ => False) wr (.cells #[.int .i64 y.k, .int .i64 y.n, .string y.s, .slice (some ⟨yb, yoff, none⟩) y.l.length yc] 24))
        clear hn hz e0
        go_wp2_with fail
        go_region
        have HB8 : Hid (Only (fun _ => False) wr ((wr.alloc (.cells #[.int .i64 y.k, .int .i64 y.n, .string y.s, .slice (some ⟨yb, yoff, none⟩) y.l.length yc] 24)).alloc (.cells #[.pointer (some ⟨yb, yoff, none⟩), .int .i64 (y.l.length : Nat)] 148)).drew ∧ Quad wr.heap.size (.int .i64 y.k) (.int .i64 y.n) (.string y.s) (.slice (some ⟨yb, yoff, none⟩) y.l.length yc) ((wr.alloc (.cells #[.int .i64 y.k, .int .i64 y.n, .string y.s, .slice (some ⟨yb, yoff, none⟩) y.l.length yc] 24)).alloc (.cells #[.pointer (some ⟨yb, yoff, none⟩), .int .i64 (y.l.length : Nat)] 148)).drew ∧ ((wr.alloc (.cells #[.int .i64 y.k, .int .i64 y.n, .string y.s, .slice (some ⟨yb, yoff, none⟩) y.l.length yc] 24)).alloc (.cells #[.pointer (some ⟨yb, yoff, none⟩), .int .i64 (y.l.length : Nat)] 148)).drew.heap[wr.heap.size + 1]? = some (.cells #[.pointer (some ⟨yb, yoff, none⟩), .int .i64 (y.l.length : Nat)] 148 (0, 0))) := by
          refine Lib.hid ⟨(HJ2.out.same (Only.alloc _ _ _)).same (Only.drew _ _), ?_, ?_⟩
          · exact Quad.only (b := wr.heap.size) (heap_alloc_new wr _) ((Only.alloc (fun _ => False) _ _).same (Only.drew _ _)) (fun e => e)
          · have := heap_alloc_new (wr.alloc (.cells #[.int .i64 y.k, .int .i64 y.n, .string y.s, .slice (some ⟨yb, yoff, none⟩) y.l.length yc] 24)) (.cells #[.pointer (some ⟨yb, yoff, none⟩), .int .i64 (y.l.length : Nat)] 148)
            rw [show (wr.alloc (.cells #[.int .i64 y.k, .int .i64 y.n, .string y.s, .slice (some ⟨yb, yoff, none⟩) y.l.length yc] 24)).heap.size = wr.heap.size + 1 by simp] at this
            exact this
        generalize ((wr.alloc (.cells #[.int .i64 y.k, .int .i64 y.n, .string y.s, .slice (some ⟨yb, yoff, none⟩) y.l.length yc] 24)).alloc (.cells #[.pointer (some ⟨yb, yoff, none⟩), .int .i64 (y.l.length : Nat)] 148)).drew = w8 at *
        have HW8 := Lib.hid (hI.out.2.2.1.later HB8.out.1)
        have r0 : w8.cell? ⟨wr.heap.size + 1, 0, none⟩ = some (.pointer (some ⟨yb, yoff, none⟩)) := by rw [cell_of_blk HB8.out.2.2]; rfl
        have r1 : w8.cell? ⟨wr.heap.size + 1, 1, none⟩ = some (.int .i64 (y.l.length : Nat)) := by rw [cell_of_blk HB8.out.2.2]; rfl
        have HC8 : Hid (Cold w8 ⟨yb, yoff, none⟩) := Lib.hid (HCO.out.1.only HW8.out.own HCO.out.2.2)
        have HW9 : Hid (∀ q, Only (fun _ => False) w8 ((w8.drewN q).alloc (.cells #[] 149))) := Lib.hid (fun q => (Only.drewN _ _ _).same (Only.alloc _ _ _))
        go_wp2_with (first
          | (at_lookup; refine wpList_lookup_cold _ rfl _ _ rfl w.heap.size m rfl HW8.out.set ⟨yb, yoff, none⟩ (y.l.length : Nat) rfl HC8.out ?_; intro v q
             have g0 : ((w8.drewN q).alloc (.cells #[] 149)).cell? ⟨wr.heap.size + 1, 0, none⟩ = some (.pointer (some ⟨yb, yoff, none⟩)) := by rw [(HW9.out q).cell (p := ⟨wr.heap.size + 1, 0, none⟩) (lt_of_block HB8.out.2.2) (fun e => e)]; exact r0
             have g1 : ((w8.drewN q).alloc (.cells #[] 149)).cell? ⟨wr.heap.size + 1, 1, none⟩ = some (.int .i64 (y.l.length : Nat)) := by rw [(HW9.out q).cell (p := ⟨wr.heap.size + 1, 1, none⟩) (lt_of_block HB8.out.2.2) (fun e => e)]; exact r1
             clear r0 r1
             cases v)
          | (at_mapUpdate; refine wpList_update_cold _ rfl _ _ _ rfl w.heap.size m rfl (HW8.out.later (HW9.out _)).set ⟨yb, yoff, none⟩ (y.l.length : Nat) rfl rfl (HC8.out.only (HW9.out _) (fun e => e)) HCO.out.2.1 ?_; intro w10 hset10 ho10
             have hbox : Quad wr.heap.size (.int .i64 y.k) (.int .i64 y.n) (.string y.s) (.slice (some ⟨yb, yoff, none⟩) y.l.length yc) w10 := (HB8.out.2.1.only (HW9.out q) (fun e => e)).only ho10 (by rintro rfl; obtain ⟨es, clock, hm, _⟩ := HW8.out.set; have hq := HB8.out.2.1; unfold Quad at hq; rw [hq] at hm; cases hm)
             have e3 := hbox.cells.2.2.2
             have HB10 := Lib.hid hbox
             have HS10 := Lib.hid hset10
             have HO10 := Lib.hid ho10
             have HR10 : Hid (LsP w.heap.size so' sc' zs w10) := Lib.hid ((HW8.out.later (HW9.out q)).row.only ho10 (by rintro g hg e; exact not_row HW8.out ⟨g, hg, e.symm⟩))
             clear g0 g1 hbox hset10 ho10)
          | (at_builtin; rw [← hI.out.1]; refine wp_append_one liesL rfl (.tmp 40) (.tmp 43) 108 rfl w.heap.size 22 i0 _ 24 Try.underlying108 hi hz0 hz1 hz2 rfl (by omega) w10 so' sc' zs ⟨y.l, some ⟨yb, yoff, none⟩, yc⟩ [.slice (some ⟨yb, yoff, none⟩) y.l.length yc] rfl rfl HR10.out rfl (by have h1 := wt_len zs; have h2 := hI.out.2.1; have h3 := HZ.out; have h4 := HST.out; omega) (by have h1 := HW8.out.own.size; have h2 := (HW9.out q).size; have h3 := HO10.out.size; omega) ?_; intro so2 sc2 w11 hrow11 ho11 hnew11)
          | fail)
        · have HI11 : Hid (WaysM w m so2 sc2 (zs ++ [⟨y.l, some ⟨yb, yoff, none⟩, yc⟩]) w11 ∧ Only (fun k => RowAt so k ∨ k = m) w5 w11 ∧ (∀ k, RowAt so2 k → RowAt so k ∨ w5.heap.size ≤ k)) := by
            have hw9 := HW8.out.later (HW9.out q)
            have hmine : ∀ k, RowAt so' k → w.heap.size ≤ k := by rintro k ⟨g, hg, rfl⟩; exact (HW8.out.row.head g hg).2.1
            have o5 : Only (fun k => RowAt so k ∨ k = m) w5 w10 := ((hI.out.2.2.2.1.same (HB8.out.1.mono (fun _ _ e => e.elim))).same ((HW9.out q).mono (fun _ _ e => e.elim))).trans HO10.out (fun k _ e => .inr e)
            refine Lib.hid ⟨⟨hrow11, (hw9.own.trans HO10.out (fun k _ e => e)).trans ho11 (fun k hk e => by have := hmine k e; omega), fun z hz => ?_, HS10.out.only ho11 (not_row HW8.out) (fun k hk e => by have := hmine k e; omega)⟩, o5.trans ho11 (fun k hk e => ?_), fun k hk => ?_⟩
            · rcases List.mem_append.1 hz with hz | hz
              · exact HW8.out.lies z hz
              · rw [List.mem_singleton.1 hz]
                exact ⟨HYL.out, HYS2.out.l⟩
            · rcases hI.out.2.2.2.2 k e with h | h
              · exact .inl h
              · omega
            · obtain ⟨g, hg, rfl⟩ := hk
              rcases hnew11 g hg with h | h
              · exact hI.out.2.2.2.2 _ ⟨g, h, rfl⟩
              · have h1 := o5.size
                exact .inr (by omega)
          go_roundw
          case rel => exact ⟨j + 1, (zs ++ [(⟨y.l, some ⟨yb, yoff, none⟩, yc⟩ : Ls)]).length, so2, sc2, zs ++ [(⟨y.l, some ⟨yb, yoff, none⟩, yc⟩ : Ls)], by go_num, by omega, by first | rfl | simp, Lib.hid ⟨rfl, by rw [wt_append, wt_one]; have h1 := hI.out.2.1; have h2 := HST.out; show wt zs + (1 + sizes y.l) ≤ _; omega, HI11.out⟩⟩
          case measure => simp [intOf]; omega
        · have HI9 := HW8.out.later (HW9.out q)
          have HO9 : Only (fun k => RowAt so k ∨ k = m) w5 ((w8.drewN q).alloc (.cells #[] 149)) := (hI.out.2.2.2.1.same (HB8.out.1.mono (fun _ _ e => e.elim))).same ((HW9.out q).mono (fun _ _ e => e.elim))
          go_roundw
          case rel => exact ⟨j + 1, m', so', sc', zs, by go_num, by omega, rfl, Lib.hid ⟨hI.out.1, by have h1 := hI.out.2.1; have h2 := HST.out; omega, HI9, HO9, hI.out.2.2.2.2⟩⟩
          case measure => simp [intOf]; omega
    · obtain rfl : j = x.l.length := by omega
      go_wp2_with fail
      go_ret
      have h1 := hI.out.2.1
      rw [List.take_length] at h1
      exact ⟨so', sc', zs, by rw [hI.out.1]; rfl, hI.out.2.2.1, h1, hI.out.2.2.2⟩
end Go.Proofs.Ytoogmlgaeipenaa.terms
