
/- Lists that came in; the table through a law's rounds; AtomReserved. -/
import Derived.Test.YtoppfhbpmmepaaaDoorAtom9
namespace Go.Proofs.YtoppfhbpmmepaaaDoor.atoms
open Go.RowKit Go.Proofs.YtoppfhbpmmepaaaDoor.own Go.Maps

/-- A call that came in. -/
structure OpA where
  k : Int
  n : ByteArray
  x : Int
instance : Inhabited OpA := ⟨⟨0, ⟨#[]⟩, 0⟩⟩
/-- A list of calls that came in. -/
structure ArgOps (W : World) (ao : Option Addr) (os : List OpA) : Prop where
  at_ : ∀ i, i < os.length → ∃ b off t, os[i]? = some t ∧ ao = some ⟨b, off, none⟩ ∧ b < W.heap.size ∧ W.cell? ⟨b, off + i * 3, none⟩ = some (.int .i64 t.k) ∧
    W.cell? ⟨b, off + i * 3 + 1, none⟩ = some (.string t.n) ∧ W.cell? ⟨b, off + i * 3 + 2, none⟩ = some (.int .i64 t.x) ∧ t.n.size ≤ maxLen
/-- A list of names that came in. -/
structure ArgNames (W : World) (ao : Option Addr) (ns : List ByteArray) : Prop where
  at_ : ∀ i, i < ns.length → ∃ b off n, ns[i]? = some n ∧ ao = some ⟨b, off, none⟩ ∧ b < W.heap.size ∧ W.cell? ⟨b, off + i, none⟩ = some (.string n) ∧ n.size ≤ maxLen

theorem ArgOps.now {W w : World} {ao : Option Addr} {os : List OpA} (h : ArgOps W ao os) (hb : Below W.heap.size W w) (i : Nat) (hi : i < os.length) : ∃ b off t, os[i]? = some t ∧ ao = some ⟨b, off, none⟩ ∧ w.cell? ⟨b, off + i * 3, none⟩ = some (.int .i64 t.k) ∧
    w.cell? ⟨b, off + i * 3 + 1, none⟩ = some (.string t.n) ∧ w.cell? ⟨b, off + i * 3 + 2, none⟩ = some (.int .i64 t.x) ∧ t.n.size ≤ maxLen := by
  obtain ⟨b, off, t, h1, h2, h3, h4, h5, h6, h7⟩ := h.at_ i hi
  exact ⟨b, off, t, h1, h2, (hb.cell (p := ⟨b, off + i * 3, none⟩) h3).trans h4, (hb.cell (p := ⟨b, off + i * 3 + 1, none⟩) h3).trans h5, (hb.cell (p := ⟨b, off + i * 3 + 2, none⟩) h3).trans h6, h7⟩
theorem ArgNames.now {W w : World} {ao : Option Addr} {ns : List ByteArray} (h : ArgNames W ao ns) (hb : Below W.heap.size W w) (i : Nat) (hi : i < ns.length) : ∃ b off n, ns[i]? = some n ∧ ao = some ⟨b, off, none⟩ ∧ w.cell? ⟨b, off + i, none⟩ = some (.string n) ∧ n.size ≤ maxLen := by
  obtain ⟨b, off, t, h1, h2, h3, h4, h5⟩ := h.at_ i hi
  exact ⟨b, off, t, h1, h2, (hb.cell (p := ⟨b, off + i, none⟩) h3).trans h4, h5⟩

theorem ArgNames.cell {W : World} {ao : Option Addr} {ns : List ByteArray} (h : ArgNames W ao ns) (i : Nat) (hi : i < ns.length) : ∃ b off n, ns[i]? = some n ∧ ao = some ⟨b, off, none⟩ ∧ n.size ≤ maxLen ∧ ∀ w, Below W.heap.size W w → w.cell? ⟨b, off + i, none⟩ = some (.string n) := by
  obtain ⟨b, off, t, h1, h2, h3, h4, h5⟩ := h.at_ i hi
  exact ⟨b, off, t, h1, h2, h5, fun w hb => (hb.cell (p := ⟨b, off + i, none⟩) h3).trans h4⟩
theorem ArgOps.cell {W : World} {ao : Option Addr} {os : List OpA} (h : ArgOps W ao os) (i : Nat) (hi : i < os.length) : ∃ b off t, os[i]? = some t ∧ ao = some ⟨b, off, none⟩ ∧ t.n.size ≤ maxLen ∧ ∀ w, Below W.heap.size W w → w.cell? ⟨b, off + i * 3, none⟩ = some (.int .i64 t.k) ∧
    w.cell? ⟨b, off + i * 3 + 1, none⟩ = some (.string t.n) ∧ w.cell? ⟨b, off + i * 3 + 2, none⟩ = some (.int .i64 t.x) := by
  obtain ⟨b, off, t, h1, h2, h3, h4, h5, h6, h7⟩ := h.at_ i hi
  exact ⟨b, off, t, h1, h2, h7, fun w hb => ⟨(hb.cell (p := ⟨b, off + i * 3, none⟩) h3).trans h4, (hb.cell (p := ⟨b, off + i * 3 + 1, none⟩) h3).trans h5, (hb.cell (p := ⟨b, off + i * 3 + 2, none⟩) h3).trans h6⟩⟩
theorem findF_res {lim : Int} {sl : List ASlot} (h : Good lim sl) {i : Nat} (hi : i < 15) : findF sl (resB i) = some i := by
  obtain ⟨m, hm⟩ := h.res i hi
  obtain ⟨hil, he⟩ := List.getElem?_eq_some_iff.1 hm
  refine List.findIdx?_eq_some_iff_getElem.2 ⟨hil, by rw [he]; exact isN_iff.2 ⟨rfl, rfl⟩, ?_⟩
  intro j hj
  obtain ⟨m2, hm2⟩ := h.res j (by omega)
  obtain ⟨hjl, he2⟩ := List.getElem?_eq_some_iff.1 hm2
  rw [he2]
  intro e
  have := resB_inj (by omega) hi (isN_iff.1 e).2
  omega

/-- The document's own list of the reserved names. -/
theorem rreserved_any (w : World) : Calls Tryd.prog 25 #[] w fun e w' => e = .returned (.slice (some ⟨w.heap.size, 0, none⟩) 15 15) ∧ NamesAt w.heap.size w' ∧ Below w.heap.size w w' := by
  go_enter Tryd.func25, Tryd.ntmps25
  go_wp2_with fail
  go_ret
  refine ⟨rfl, ?_, (Only.alloc (fun _ => False) w _).to_below⟩
  intro i hi
  rw [cell_of_blk (heap_alloc_new w _)]
  obtain rfl | rfl | rfl | rfl | rfl | rfl | rfl | rfl | rfl | rfl | rfl | rfl | rfl | rfl | rfl : i = 0 ∨ i = 1 ∨ i = 2 ∨ i = 3 ∨ i = 4 ∨ i = 5 ∨ i = 6 ∨ i = 7 ∨ i = 8 ∨ i = 9 ∨ i = 10 ∨ i = 11 ∨ i = 12 ∨ i = 13 ∨ i = 14 := by omega
  all_goals rfl

/-- A table through a law's calls: somewhere, with some slots, k names at most made. -/
def Some_ (b : Nat) (lim : Int) (k : Nat) (w0 w : World) : Prop := ∃ S made sl, St S b lim made sl w0 w ∧ 0 ≤ made ∧ made ≤ (k : Int)
def Rest (b : Nat) (lim : Int) (w0 w : World) : Prop := ∃ S made sl, St S b lim made sl w0 w
def RestR (b : Nat) (lim : Int) (ga gb : Nat) (w0 w : World) : Prop := ∃ S made sl, St S b lim made sl w0 w ∧ ¬ S ga ∧ ¬ S gb ∧ NamesAt ga w ∧ NamesAt gb w
theorem NamesAt.lt {g : Nat} {w : World} (h : NamesAt g w) : g < w.heap.size := lt_of_cell? (h 0 (by omega))
theorem NamesAt.only {g : Nat} {w w' : World} {S' : Nat → Prop} (h : NamesAt g w) (ho : Only S' w w') (hn : ¬ S' g) : NamesAt g w' := fun i hi => (ho.cell (p := ⟨g, i, none⟩) h.lt hn).trans (h i hi)
theorem RestR.start {S : Nat → Prop} {b : Nat} {lim made : Int} {sl : List ASlot} {w0 wr w5 w6 : World} (h : St S b lim made sl w0 wr) (n5 : NamesAt wr.heap.size w5) (b5 : Below wr.heap.size wr w5) (n6 : NamesAt w5.heap.size w6) (b6 : Below w5.heap.size w5 w6) : RestR b lim wr.heap.size w5.heap.size w0 w6 := by
  have o5 := Only.of_below b5 (fun _ => False)
  have o6 := Only.of_below b6 (fun _ => False)
  have h5 := h.still o5 (fun _ _ e => e) (fun e => e) (b5.mono h.below.size)
  have h6 := h5.still o6 (fun _ _ e => e) (fun e => e) (b6.mono h5.below.size)
  have s5 := b5.size
  refine ⟨S, made, sl, h6, fun e => ?_, fun e => ?_, n5.only o6 (fun e => e), n6⟩
  · have := h.tab.bound.2.2.2 _ e; omega
  · have := h.tab.bound.2.2.2 _ e; omega
theorem RestR.drewN {b : Nat} {lim : Int} {ga gb : Nat} {w0 w : World} (h : RestR b lim ga gb w0 w) (n : Nat) : RestR b lim ga gb w0 (w.drewN n) := by
  obtain ⟨S, made, sl, h1, h2, h3, h4, h5⟩ := h
  have o := Only.drewN (fun _ => False) w n
  exact ⟨S, made, sl, h1.still o (fun _ _ e => e) (fun e => e) (o.below h1.below.size (fun _ _ e => e.elim)), h2, h3, h4.only o (fun e => e), h5.only o (fun e => e)⟩
theorem RestR.find {b : Nat} {lim : Int} {ga gb : Nat} {w0 w w' : World} {S : Nat → Prop} {made : Int} {sl : List ASlot} (ha : ¬ S ga) (hb : ¬ S gb) (na : NamesAt ga w) (nb : NamesAt gb w) (h' : St (Grew S w w') b lim made sl w0 w') (ho : Only S w w') : RestR b lim ga gb w0 w' :=
  ⟨_, made, sl, h', by rintro (e | e); exact ha e; have := na.lt; omega, by rintro (e | e); exact hb e; have := nb.lt; omega, na.only ho ha, nb.only ho hb⟩
theorem internF_made (lim made : Int) (sl : List ASlot) (n : ByteArray) : made ≤ (internF lim made sl n).made ∧ (internF lim made sl n).made ≤ made + 1 := by
  unfold internF
  split
  · exact ⟨Int.le_refl _, by show made ≤ made + 1; omega⟩
  · split
    · exact ⟨Int.le_refl _, by show made ≤ made + 1; omega⟩
    · split
      · exact ⟨by show made ≤ made + 1; omega, Int.le_refl _⟩
      · exact ⟨Int.le_refl _, by show made ≤ made + 1; omega⟩

end Go.Proofs.YtoppfhbpmmepaaaDoor.atoms
