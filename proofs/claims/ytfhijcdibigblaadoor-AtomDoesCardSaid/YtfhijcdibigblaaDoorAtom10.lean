/- Lists that came in; the table through a law's rounds; AtomReserved. -/
import Derived.Test.YtfhijcdibigblaaDoorAtom9
namespace Go.Proofs.YtfhijcdibigblaaDoor.atoms
open Go.RowKit Go.Proofs.YtfhijcdibigblaaDoor.own Go.Maps

/-- A call that came in. -/
structure OpA where
  k : Int
  n : ByteArray
  x : Int
instance : Inhabited OpA := ⟨⟨0, ⟨#[]⟩, 0⟩⟩
/-- A list of calls that came in. -/
structure ArgOps (W : World) (ao : Option Addr) (os : List OpA) : Prop where
  at_ : ∀ i, i < os.length → ∃ b off t, os[i]? = some t ∧ ao = some ⟨b, off, none⟩ ∧ b < W.heap.size ∧ W.cell? ⟨b, off + i * 3, none⟩ = some (.int .i64 t.k) ∧
    W.cell? ⟨b, off + i * 3 + 1, none⟩ = some (.string t.n) ∧ W.cell? ⟨b, off + i * 3 + 2, none⟩ = some (.int .i64 t.x) ∧ t.n.size ≤ maxLen
/-- A list of names that came in. -/
structure ArgNames (W : World) (ao : Option Addr) (ns : List ByteArray) : Prop where
  at_ : ∀ i, i < ns.length → ∃ b off n, ns[i]? = some n ∧ ao = some ⟨b, off, none⟩ ∧ b < W.heap.size ∧ W.cell? ⟨b, off + i, none⟩ = some (.string n) ∧ n.size ≤ maxLen

theorem ArgOps.now {W w : World} {ao : Option Addr} {os : List OpA} (h : ArgOps W ao os) (hb : Below W.heap.size W w) (i : Nat) (hi : i < os.length) : ∃ b off t, os[i]? = some t ∧ ao = some ⟨b, off, none⟩ ∧ w.cell? ⟨b, off + i * 3, none⟩ = some (.int .i64 t.k) ∧
    w.cell? ⟨b, off + i * 3 + 1, none⟩ = some (.string t.n) ∧ w.cell? ⟨b, off + i * 3 + 2, none⟩ = some (.int .i64 t.x) ∧ t.n.size ≤ maxLen := by
  obtain ⟨b, off, t, h1, h2, h3, h4, h5, h6, h7⟩ := h.at_ i hi
  exact ⟨b, off, t, h1, h2, (hb.cell (p := ⟨b, off + i * 3, none⟩) h3).trans h4, (hb.cell (p := ⟨b, off + i * 3 + 1, none⟩) h3).trans h5, (hb.cell (p := ⟨b, off + i * 3 + 2, none⟩) h3).trans h6, h7⟩
theorem ArgNames.now {W w : World} {ao : Option Addr} {ns : List ByteArray} (h : ArgNames W ao ns) (hb : Below W.heap.size W w) (i : Nat) (hi : i < ns.length) : ∃ b off n, ns[i]? = some n ∧ ao = some ⟨b, off, none⟩ ∧ w.cell? ⟨b, off + i, none⟩ = some (.string n) ∧ n.size ≤ maxLen := by
  obtain ⟨b, off, t, h1, h2, h3, h4, h5⟩ := h.at_ i hi
  exact ⟨b, off, t, h1, h2, (hb.cell (p := ⟨b, off + i, none⟩) h3).trans h4, h5⟩

theorem ArgNames.cell {W : World} {ao : Option Addr} {ns : List ByteArray} (h : ArgNames W ao ns) (i : Nat) (hi : i < ns.length) : ∃ b off n, ns[i]? = some n ∧ ao = some ⟨b, off, none⟩ ∧ n.size ≤ maxLen ∧ ∀ w, Below W.heap.size W w → w.cell? ⟨b, off + i, none⟩ = some (.string n) := by
  obtain ⟨b, off, t, h1, h2, h3, h4, h5⟩ := h.at_ i hi
  exact ⟨b, off, t, h1, h2, h5, fun w hb => (hb.cell (p := ⟨b, off + i, none⟩) h3).trans h4⟩
theorem ArgOps.cell {W : World} {ao : Option Addr} {os : List OpA} (h : ArgOps W ao os) (i : Nat) (hi : i < os.length) : ∃ b off t, os[i]? = some t ∧ ao = some ⟨b, off, none⟩ ∧ t.n.size ≤ maxLen ∧ ∀ w, Below W.heap.size W w → w.cell? ⟨b, off + i * 3, none⟩ = some (.int .i64 t.k) ∧
    w.cell? ⟨b, off + i * 3 + 1, none⟩ = some (.string t.n) ∧ w.cell? ⟨b, off + i * 3 + 2, none⟩ = some (.int .i64 t.x) := by
  obtain ⟨b, off, t, h1, h2, h3, h4, h5, h6, h7⟩ := h.at_ i hi
  exact ⟨b, off, t, h1, h2, h7, fun w hb => ⟨(hb.cell (p := ⟨b, off + i * 3, none⟩) h3).trans h4, (hb.cell (p := ⟨b, off + i * 3 + 1, none⟩) h3).trans h5, (hb.cell (p := ⟨b, off + i * 3 + 2, none⟩) h3).trans h6⟩⟩
theorem findF_res {lim : Int} {sl : List ASlot} (h : Good lim sl) {i : Nat} (hi : i < 15) : findF sl (resB i) = some i := by
  obtain ⟨m, hm⟩ := h.res i hi
  obtain ⟨hil, he⟩ := List.getElem?_eq_some_iff.1 hm
  refine List.findIdx?_eq_some_iff_getElem.2 ⟨hil, by rw [he]; exact isN_iff.2 ⟨rfl, rfl⟩, ?_⟩
  intro j hj
  obtain ⟨m2, hm2⟩ := h.res j (by omega)
  obtain ⟨hjl, he2⟩ := List.getElem?_eq_some_iff.1 hm2
  rw [he2]
  intro e
  have := resB_inj (by omega) hi (isN_iff.1 e).2
  omega

/-- The document's own list of the reserved names. -/
theorem rreserved_any (w : World) : Calls Tryd.prog 24 #[] w fun e w' => e = .returned (.slice (some ⟨w.heap.size, 0, none⟩) 15 15) ∧ NamesAt w.heap.size w' ∧ Below w.heap.size w w' := by
  go_enter Tryd.func24, Tryd.ntmps24
  go_wp2_with fail
  go_ret
  refine ⟨rfl, ?_, (Only.alloc (fun _ => False) w _).to_below⟩
  intro i hi
  rw [cell_of_blk (heap_alloc_new w _)]
  obtain rfl | rfl | rfl | rfl | rfl | rfl | rfl | rfl | rfl | rfl | rfl | rfl | rfl | rfl | rfl : i = 0 ∨ i = 1 ∨ i = 2 ∨ i = 3 ∨ i = 4 ∨ i = 5 ∨ i = 6 ∨ i = 7 ∨ i = 8 ∨ i = 9 ∨ i = 10 ∨ i = 11 ∨ i = 12 ∨ i = 13 ∨ i = 14 := by omega
  all_goals rfl

/-- A table through a law's calls: somewhere, with some slots, k names at most made. -/
def Some_ (b : Nat) (lim : Int) (k : Nat) (w0 w : World) : Prop := ∃ S made sl, St S b lim made sl w0 w ∧ 0 ≤ made ∧ made ≤ (k : Int)
def Rest (b : Nat) (lim : Int) (w0 w : World) : Prop := ∃ S made sl, St S b lim made sl w0 w
def RestR (b : Nat) (lim : Int) (ga gb : Nat) (w0 w : World) : Prop := ∃ S made sl, St S b lim made sl w0 w ∧ ¬ S ga ∧ ¬ S gb ∧ NamesAt ga w ∧ NamesAt gb w
theorem NamesAt.lt {g : Nat} {w : World} (h : NamesAt g w) : g < w.heap.size := lt_of_cell? (h 0 (by omega))
theorem NamesAt.only {g : Nat} {w w' : World} {S' : Nat → Prop} (h : NamesAt g w) (ho : Only S' w w') (hn : ¬ S' g) : NamesAt g w' := fun i hi => (ho.cell (p := ⟨g, i, none⟩) h.lt hn).trans (h i hi)
theorem RestR.start {S : Nat → Prop} {b : Nat} {lim made : Int} {sl : List ASlot} {w0 wr w5 w6 : World} (h : St S b lim made sl w0 wr) (n5 : NamesAt wr.heap.size w5) (b5 : Below wr.heap.size wr w5) (n6 : NamesAt w5.heap.size w6) (b6 : Below w5.heap.size w5 w6) : RestR b lim wr.heap.size w5.heap.size w0 w6 := by
  have o5 := Only.of_below b5 (fun _ => False)
  have o6 := Only.of_below b6 (fun _ => False)
  have h5 := h.still o5 (fun _ _ e => e) (fun e => e) (b5.mono h.below.size)
  have h6 := h5.still o6 (fun _ _ e => e) (fun e => e) (b6.mono h5.below.size)
  have s5 := b5.size
  refine ⟨S, made, sl, h6, fun e => ?_, fun e => ?_, n5.only o6 (fun e => e), n6⟩
  · have := h.tab.bound.2.2.2 _ e; omega
  · have := h.tab.bound.2.2.2 _ e; omega
theorem RestR.drewN {b : Nat} {lim : Int} {ga gb : Nat} {w0 w : World} (h : RestR b lim ga gb w0 w) (n : Nat) : RestR b lim ga gb w0 (w.drewN n) := by
  obtain ⟨S, made, sl, h1, h2, h3, h4, h5⟩ := h
  have o := Only.drewN (fun _ => False) w n
  exact ⟨S, made, sl, h1.still o (fun _ _ e => e) (fun e => e) (o.below h1.below.size (fun _ _ e => e.elim)), h2, h3, h4.only o (fun e => e), h5.only o (fun e => e)⟩
theorem RestR.find {b : Nat} {lim : Int} {ga gb : Nat} {w0 w w' : World} {S : Nat → Prop} {made : Int} {sl : List ASlot} (ha : ¬ S ga) (hb : ¬ S gb) (na : NamesAt ga w) (nb : NamesAt gb w) (h' : St (Grew S w w') b lim made sl w0 w') (ho : Only S w w') : RestR b lim ga gb w0 w' :=
  ⟨_, made, sl, h', by rintro (e | e); exact ha e; have := na.lt; omega, by rintro (e | e); exact hb e; have := nb.lt; omega, na.only ho ha, nb.only ho hb⟩
theorem internF_made (lim made : Int) (sl : List ASlot) (n : ByteArray) : made ≤ (internF lim made sl n).made ∧ (internF lim made sl n).made ≤ made + 1 := by
  unfold internF
  split
  · exact ⟨Int.le_refl _, by show made ≤ made + 1; omega⟩
  · split
    · exact ⟨Int.le_refl _, by show made ≤ made + 1; omega⟩
    · split
      · exact ⟨by show made ≤ made + 1; omega, Int.le_refl _⟩
      · exact ⟨Int.le_refl _, by show made ≤ made + 1; omega⟩

set_option maxRecDepth 100000 in
set_option maxHeartbeats 4000000 in
theorem law_reserved (ao : Option Addr) (cap : Nat) (os : List OpA) (w : World) (hA : ArgOps w ao os) (hm : os.length ≤ maxLen) (hL : Listed w) :
    Calls Tryd.prog 5 #[.slice ao os.length cap] w fun e w' => e = .returned (.bool true) ∧ Below w.heap.size w w' := by
  unfold maxLen at hm
  have HL := Lib.hid hL
  have HA := Lib.hid hA
  have hnot := run_not
  clear hL hA
  go_enter Tryd.func5, Tryd.ntmps5
  go_wp2_with fail
  refine (new_yes 30 _ (by omega) (by omega)).mono ?_
  rintro e w1 ⟨rfl, t1⟩
  have T1 := Lib.hid (St.new HL.out t1 (by omega) (by omega))
  clear t1
  go_wp2_with fail
  refine (lives_any _ T1.out.listed).mono ?_
  rintro e w2 ⟨rfl, b2⟩
  have T2 : Hid (Some_ w.heap.size 30 0 w w2) := by
    have o2 := Only.of_below b2 (fun _ => False)
    exact Lib.hid ⟨_, 0, _, T1.out.still o2 (fun _ _ e => e) (fun e => e) (b2.mono T1.out.below.size), by omega, by omega⟩
  clear b2
  go_wp2_with fail
  go_loopw [5] (fun i wr => ∃ k : Nat, i = .int .i64 k ∧ k ≤ os.length ∧ k ≤ 60 ∧ Hid (Some_ w.heap.size 30 k w wr)) (fun i _ => os.length - (intOf i).toNat)
  case atStart => exact ⟨0, rfl, by omega, by omega, T2⟩
  case round =>
    obtain ⟨k, rfl, hk, hk60, hR⟩ := hrel
    obtain ⟨S, made, sl, hT, hm0, hm1⟩ := hR.out
    have HT := Lib.hid hT
    clear hT hR
    by_cases hlt : k < os.length
    · by_cases h60 : k < 60
      · obtain ⟨b, off, t, ht, rfl, c0, c1, c2, hn⟩ := HA.out.now HT.out.below k hlt
        obtain ⟨tk, tn, tx⟩ := t
        simp only at c0 c1 c2 hn
        clear ht
        have hstay : Hid (Some_ w.heap.size 30 (k + 1) w wr) := Lib.hid ⟨S, made, sl, HT.out, hm0, by omega⟩
        rcases (by omega : tk = 1 ∨ tk = 4 ∨ tk = 5 ∨ (tk ≠ 1 ∧ tk ≠ 4 ∧ tk ≠ 5)) with rfl | rfl | rfl | ⟨h1, h4, h5⟩
        · go_wp2_with fail
          refine (st_intern tn HT.out hm0 (by omega) _ rfl).mono ?_
          rintro e w4 ⟨rfl, t4, _⟩
          have hmm := internF_made 30 made sl tn
          have H4 : Hid (Some_ w.heap.size 30 (k + 1) w w4) := Lib.hid ⟨_, _, _, t4, by omega, by omega⟩
          clear t4 hmm
          generalize internF 30 made sl tn = r at *
          go_wp2_with fail
          go_roundw
          case rel => exact ⟨k + 1, by go_num, by omega, by omega, H4⟩
          case measure => simp [intOf]; omega
        · go_wp2_with fail
          refine (st_mark tx HT.out).mono ?_
          rintro e w4 ⟨rfl, t4, _⟩
          have H4 : Hid (Some_ w.heap.size 30 (k + 1) w w4) := Lib.hid ⟨_, _, _, t4, hm0, by omega⟩
          clear t4
          generalize errS sl tx = r at *
          go_wp2_with fail
          go_roundw
          case rel => exact ⟨k + 1, by go_num, by omega, by omega, H4⟩
          case measure => simp [intOf]; omega
        · go_wp2_with fail
          refine (st_sweep HT.out).mono ?_
          rintro e w4 ⟨rfl, t4, _⟩
          have H4 : Hid (Some_ w.heap.size 30 (k + 1) w w4) := Lib.hid ⟨_, _, _, t4, hm0, by omega⟩
          clear t4
          generalize (used sl : Int) - (used (sweepTo sl sl.length) : Int) = r at *
          go_wp2_with fail
          go_roundw
          case rel => exact ⟨k + 1, by go_num, by omega, by omega, H4⟩
          case measure => simp [intOf]; omega
        · have g1 : (tk == 1) = false := by simpa using h1
          have g4 : (tk == 4) = false := by simpa using h4
          have g5 : (tk == 5) = false := by simpa using h5
          go_wp2_with fail
          go_roundw
          case rel => exact ⟨k + 1, by go_num, by omega, by omega, hstay⟩
          case measure => simp [intOf]; omega
      · obtain rfl : k = 60 := by omega
        have HF : Hid (Rest w.heap.size 30 w wr) := Lib.hid ⟨S, made, sl, HT.out⟩
        clear HT
        go_wp2_with fail
        obtain ⟨S2, made2, sl2, hT2⟩ := HF.out
        have HT2 := Lib.hid hT2
        clear hT2 HF hm0 hm1
        refine (reserved_any _ HT2.out.listed).mono ?_
        rintro e w5 ⟨rfl, n5, b5⟩
        have N5 := Lib.hid n5
        have B5 := Lib.hid b5
        clear n5 b5
        go_wp2_with fail
        refine (rreserved_any _).mono ?_
        rintro e w6 ⟨rfl, n6, b6⟩
        have HR6 : Hid (RestR w.heap.size 30 wr.heap.size w5.heap.size w w6) := Lib.hid (RestR.start HT2.out N5.out B5.out n6 b6)
        clear n6 b6 N5 B5 HT2
        generalize wr.heap.size = ga at *
        generalize w5.heap.size = gb at *
        go_wp2_with fail
        go_loopw [8] (fun i wq => ∃ j : Nat, i = .int .i64 j ∧ j ≤ 15 ∧ Hid (RestR w.heap.size 30 ga gb w wq)) (fun i _ => 15 - (intOf i).toNat)
        case atStart => exact ⟨0, rfl, by omega, HR6⟩
        case round =>
          obtain ⟨j, rfl, hj, hR⟩ := hrel
          obtain ⟨S3, made3, sl3, hT3, na, nb, hna, hnb⟩ := hR.out
          have HT3 := Lib.hid hT3
          have NA := Lib.hid na
          have NB := Lib.hid nb
          have HNA := Lib.hid hna
          have HNB := Lib.hid hnb
          clear hT3 na nb hna hnb hR HR6
          by_cases hj15 : j < 15
          · have ca := HNA.out j hj15
            have cb := HNB.out j hj15
            have HF3 := Lib.hid (findF_res HT3.out.good hj15)
            go_wp2_with fail
            refine (st_find (resB j) HT3.out (by have := resB_size j hj15; unfold maxLen; omega)).mono ?_
            rintro e w7 ⟨rfl, t7, o7⟩
            have hfi : findI sl3 (resB j) = (j : Int) := by unfold findI; rw [HF3.out]; rfl
            have hfb : findB sl3 (resB j) = true := by unfold findB; rw [HF3.out]; rfl
            rw [hfi, hfb]
            have HR7 : Hid (RestR w.heap.size 30 ga gb w w7) := Lib.hid (RestR.find NA.out NB.out HNA.out HNB.out t7 o7)
            have ca7 := (HNA.out.only o7 NA.out) j hj15
            have cb7 := (HNB.out.only o7 NB.out) j hj15
            clear t7 o7 hfi hfb ca cb
            generalize resB j = rj at *
            go_wp2_with fail
            go_quiet (fail)
            have HR8 := Lib.hid (HR7.out.drewN nq)
            generalize w7.drewN nq = w8 at *
            go_wp2_with fail
            go_roundw
            case rel => exact ⟨j + 1, by go_num, by omega, HR8⟩
            case measure => simp [intOf]; omega
          · obtain rfl : j = 15 := by omega
            have HB3 := Lib.hid HT3.out.below
            go_wp2_with fail
            go_ret
            exact ⟨rfl, HB3.out⟩
    · have HF : Hid (Rest w.heap.size 30 w wr) := Lib.hid ⟨S, made, sl, HT.out⟩
      clear HT
      go_wp2_with fail
      obtain ⟨S2, made2, sl2, hT2⟩ := HF.out
      have HT2 := Lib.hid hT2
      clear hT2 HF hm0 hm1
      refine (reserved_any _ HT2.out.listed).mono ?_
      rintro e w5 ⟨rfl, n5, b5⟩
      have N5 := Lib.hid n5
      have B5 := Lib.hid b5
      clear n5 b5
      go_wp2_with fail
      refine (rreserved_any _).mono ?_
      rintro e w6 ⟨rfl, n6, b6⟩
      have HR6 : Hid (RestR w.heap.size 30 wr.heap.size w5.heap.size w w6) := Lib.hid (RestR.start HT2.out N5.out B5.out n6 b6)
      clear n6 b6 N5 B5 HT2
      generalize wr.heap.size = ga at *
      generalize w5.heap.size = gb at *
      go_wp2_with fail
      go_loopw [8] (fun i wq => ∃ j : Nat, i = .int .i64 j ∧ j ≤ 15 ∧ Hid (RestR w.heap.size 30 ga gb w wq)) (fun i _ => 15 - (intOf i).toNat)
      case atStart => exact ⟨0, rfl, by omega, HR6⟩
      case round =>
        obtain ⟨j, rfl, hj, hR⟩ := hrel
        obtain ⟨S3, made3, sl3, hT3, na, nb, hna, hnb⟩ := hR.out
        have HT3 := Lib.hid hT3
        have NA := Lib.hid na
        have NB := Lib.hid nb
        have HNA := Lib.hid hna
        have HNB := Lib.hid hnb
        clear hT3 na nb hna hnb hR HR6
        by_cases hj15 : j < 15
        · have ca := HNA.out j hj15
          have cb := HNB.out j hj15
          have HF3 := Lib.hid (findF_res HT3.out.good hj15)
          go_wp2_with fail
          refine (st_find (resB j) HT3.out (by have := resB_size j hj15; unfold maxLen; omega)).mono ?_
          rintro e w7 ⟨rfl, t7, o7⟩
          have hfi : findI sl3 (resB j) = (j : Int) := by unfold findI; rw [HF3.out]; rfl
          have hfb : findB sl3 (resB j) = true := by unfold findB; rw [HF3.out]; rfl
          rw [hfi, hfb]
          have HR7 : Hid (RestR w.heap.size 30 ga gb w w7) := Lib.hid (RestR.find NA.out NB.out HNA.out HNB.out t7 o7)
          have ca7 := (HNA.out.only o7 NA.out) j hj15
          have cb7 := (HNB.out.only o7 NB.out) j hj15
          clear t7 o7 hfi hfb ca cb
          generalize resB j = rj at *
          go_wp2_with fail
          go_quiet (fail)
          have HR8 := Lib.hid (HR7.out.drewN nq)
          generalize w7.drewN nq = w8 at *
          go_wp2_with fail
          go_roundw
          case rel => exact ⟨j + 1, by go_num, by omega, HR8⟩
          case measure => simp [intOf]; omega
        · obtain rfl : j = 15 := by omega
          have HB3 := Lib.hid HT3.out.below
          go_wp2_with fail
          go_ret
          exact ⟨rfl, HB3.out⟩
end Go.Proofs.YtfhijcdibigblaaDoor.atoms
