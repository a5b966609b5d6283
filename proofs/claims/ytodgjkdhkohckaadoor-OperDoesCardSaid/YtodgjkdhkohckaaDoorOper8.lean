/- Operators: a new table. -/
import Derived.Test.YtodgjkdhkohckaaDoorOper7
namespace Go.Proofs.YtodgjkdhkohckaaDoor.opers
open Go.RowKit Go.Proofs.YtodgjkdhkohckaaDoor.own Go.Maps
/-- A table in memory: its cell, and what its two maps hold. -/
structure Tb (b mi mp ni np : Nat) (Di Dp : D1) (W : World) : Prop where
  box : BoxT b mi mp W
  i : OMap W mi ni Di
  p : OMap W mp np Dp
  ne : mi ≠ mp
theorem Tb.only {b mi mp ni np : Nat} {Di Dp : D1} {W W' : World} {S : Nat → Prop} (h : Tb b mi mp ni np Di Dp W) (ho : Only S W W') (hb : ¬ S b) (hi : ¬ S mi) (hp : ¬ S mp) : Tb b mi mp ni np Di Dp W' :=
  ⟨by unfold BoxT; rw [ho.block b (lt_of_block h.box) hb]; exact h.box, map_only h.i ho hi, map_only h.p ho hp, h.ne⟩
theorem Tb.later {b mi mp ni np : Nat} {Di Dp : D1} {W W' : World} (h : Tb b mi mp ni np Di Dp W) (ho : Only (fun _ => False) W W') : Tb b mi mp ni np Di Dp W' := h.only ho (fun e => e) (fun e => e) (fun e => e)
/-- Some are put in, their names in a row that is new. -/
theorem Tb.putsP {b mi mp ni np : Nat} {Di Dp : D1} {W : World} (h : Tb b mi mp ni np Di Dp W) (p k : Int) (ns : List ByteArray) (hk : isPreF k = true) (hsz : ∀ x ∈ ns, x.size ≤ 64) (hn : np + ns.length ≤ 1000000) :
    Calls Tryd.prog 28 #[.pointer (some ⟨b, 0, none⟩), .int .i64 p, .int .i64 k, .slice (some ⟨W.heap.size, 0, none⟩) ns.length ns.length] (W.alloc (.cells (ns.map Value.string).toArray 9)) fun e w' => e = .returned (.tuple #[]) ∧ Tb b mi mp ni (np + ns.length) Di (putsF p k ns Dp) w' ∧ Only (fun q => q = mi ∨ q = mp) W w' := by
  have ha : Only (fun _ => False) W (W.alloc (.cells (ns.map Value.string).toArray 9)) := Only.alloc _ _ _
  have h1 := h.later ha
  have hs : mp = sideOf k mi mp := by unfold sideOf; rw [if_pos hk]
  refine (put_any b mi mp mp np W.heap.size ns.length Dp p k ns _ h1.box hs h1.p (heap_alloc_new _ _) hsz (by omega)).mono ?_
  rintro e w' ⟨rfl, h2, h3⟩
  refine ⟨rfl, ?_, (ha.mono (fun _ _ e => e.elim)).same (h3.mono (fun q _ e => .inr e))⟩
  exact ⟨by unfold BoxT; rw [h3.block b (lt_of_block h1.box) (fun e => map_ne h1.p h1.box e.symm)]; exact h1.box, map_only h1.i h3 (fun e => h.ne e), h2, h.ne⟩
theorem Tb.putsI {b mi mp ni np : Nat} {Di Dp : D1} {W : World} (h : Tb b mi mp ni np Di Dp W) (p k : Int) (ns : List ByteArray) (hk : isPreF k = false) (hsz : ∀ x ∈ ns, x.size ≤ 64) (hn : ni + ns.length ≤ 1000000) :
    Calls Tryd.prog 28 #[.pointer (some ⟨b, 0, none⟩), .int .i64 p, .int .i64 k, .slice (some ⟨W.heap.size, 0, none⟩) ns.length ns.length] (W.alloc (.cells (ns.map Value.string).toArray 9)) fun e w' => e = .returned (.tuple #[]) ∧ Tb b mi mp (ni + ns.length) np (putsF p k ns Di) Dp w' ∧ Only (fun q => q = mi ∨ q = mp) W w' := by
  have ha : Only (fun _ => False) W (W.alloc (.cells (ns.map Value.string).toArray 9)) := Only.alloc _ _ _
  have h1 := h.later ha
  have hs : mi = sideOf k mi mp := by unfold sideOf; rw [if_neg (by rw [hk]; simp)]
  refine (put_any b mi mp mi ni W.heap.size ns.length Di p k ns _ h1.box hs h1.i (heap_alloc_new _ _) hsz (by omega)).mono ?_
  rintro e w' ⟨rfl, h2, h3⟩
  refine ⟨rfl, ?_, (ha.mono (fun _ _ e => e.elim)).same (h3.mono (fun q _ e => .inl e))⟩
  exact ⟨by unfold BoxT; rw [h3.block b (lt_of_block h1.box) (fun e => map_ne h1.i h1.box e.symm)]; exact h1.box, h2, map_only h1.p h3 (fun e => h.ne e.symm), h.ne⟩
theorem Tb.start (W : World) : Tb (W.heap.size + 2) W.heap.size (W.heap.size + 1) 0 0 (.map []) (.map []) (((W.alloc (.map #[] 0)).alloc (.map #[] 0)).alloc (.cells #[.map (some W.heap.size), .map (some (W.heap.size + 1))] 52)) ∧ Only (fun _ => False) W (((W.alloc (.map #[] 0)).alloc (.map #[] 0)).alloc (.cells #[.map (some W.heap.size), .map (some (W.heap.size + 1))] 52)) := by
  have m1 := World.ownsMap_made (H := Unit) W Tryd.prog 9 opR
  have m2 := World.ownsMap_made (H := Unit) (W.alloc (.map #[] 0)) Tryd.prog 9 opR
  have a1 : Only (fun _ => False) W (W.alloc (.map #[] 0)) := Only.alloc _ _ _
  have a2 : Only (fun _ => False) (W.alloc (.map #[] 0)) ((W.alloc (.map #[] 0)).alloc (.map #[] 0)) := Only.alloc _ _ _
  have a3 : Only (fun _ => False) ((W.alloc (.map #[] 0)).alloc (.map #[] 0)) (((W.alloc (.map #[] 0)).alloc (.map #[] 0)).alloc (.cells #[.map (some W.heap.size), .map (some (W.heap.size + 1))] 52)) := Only.alloc _ _ _
  have hs1 : (W.alloc (.map #[] 0)).heap.size = W.heap.size + 1 := by simp
  have hs2 : ((W.alloc (.map #[] 0)).alloc (.map #[] 0)).heap.size = W.heap.size + 2 := by simp
  rw [hs1] at m2
  have hb := heap_alloc_new ((W.alloc (.map #[] 0)).alloc (.map #[] 0)) (.cells #[.map (some W.heap.size), .map (some (W.heap.size + 1))] 52)
  rw [hs2] at hb
  exact ⟨⟨hb, map_only m1 (a2.same a3) (fun e => e), map_only m2 a3 (fun e => e), by omega⟩, (a1.same a2).same a3⟩
abbrev nm0 : List ByteArray := [⟨#[58, 45]⟩]
theorem nm0_le : ∀ x ∈ nm0, x.size ≤ 64 := by decide +kernel
abbrev nm1 : List ByteArray := [⟨#[58, 45]⟩]
theorem nm1_le : ∀ x ∈ nm1, x.size ≤ 64 := by decide +kernel
abbrev nm2 : List ByteArray := [⟨#[59]⟩]
theorem nm2_le : ∀ x ∈ nm2, x.size ≤ 64 := by decide +kernel
abbrev nm3 : List ByteArray := [⟨#[45, 62]⟩]
theorem nm3_le : ∀ x ∈ nm3, x.size ≤ 64 := by decide +kernel
abbrev nm4 : List ByteArray := [⟨#[44]⟩]
theorem nm4_le : ∀ x ∈ nm4, x.size ≤ 64 := by decide +kernel
abbrev nm5 : List ByteArray := [⟨#[92, 43]⟩]
theorem nm5_le : ∀ x ∈ nm5, x.size ≤ 64 := by decide +kernel
abbrev nm6 : List ByteArray := [⟨#[61]⟩, ⟨#[92, 61]⟩, ⟨#[61, 61]⟩, ⟨#[92, 61, 61]⟩, ⟨#[64, 60]⟩, ⟨#[64, 62]⟩, ⟨#[64, 61, 60]⟩, ⟨#[64, 62, 61]⟩, ⟨#[105, 115]⟩, ⟨#[61, 58, 61]⟩, ⟨#[61, 92, 61]⟩, ⟨#[60]⟩, ⟨#[62]⟩, ⟨#[61, 60]⟩, ⟨#[62, 61]⟩, ⟨#[61, 46, 46]⟩]
theorem nm6_le : ∀ x ∈ nm6, x.size ≤ 64 := by decide +kernel
abbrev nm7 : List ByteArray := [⟨#[43]⟩, ⟨#[45]⟩]
theorem nm7_le : ∀ x ∈ nm7, x.size ≤ 64 := by decide +kernel
abbrev nm8 : List ByteArray := [⟨#[42]⟩, ⟨#[47]⟩, ⟨#[47, 47]⟩, ⟨#[109, 111, 100]⟩, ⟨#[114, 101, 109]⟩]
theorem nm8_le : ∀ x ∈ nm8, x.size ≤ 64 := by decide +kernel
abbrev nm9 : List ByteArray := [⟨#[94]⟩]
theorem nm9_le : ∀ x ∈ nm9, x.size ≤ 64 := by decide +kernel
abbrev nm10 : List ByteArray := [⟨#[45]⟩]
theorem nm10_le : ∀ x ∈ nm10, x.size ≤ 64 := by decide +kernel
/-- The operators that there are at the beginning. -/
def Di0 : D1 := (putsF 200 2 nm9 (putsF 400 3 nm8 (putsF 500 3 nm7 (putsF 700 1 nm6 (putsF 1000 2 nm4 (putsF 1050 2 nm3 (putsF 1100 2 nm2 (putsF 1200 1 nm0 (.map [])))))))))
def Dp0 : D1 := (putsF 200 4 nm10 (putsF 900 4 nm5 (putsF 1200 5 nm1 (.map []))))
set_option maxRecDepth 100000 in
set_option maxHeartbeats 8000000 in
theorem New_any (w : World) : Calls Tryd.prog 8 #[] w fun e w' => ∃ b mi mp, e = .returned (.pointer (some ⟨b, 0, none⟩)) ∧ Tb b mi mp 28 3 Di0 Dp0 w' ∧ Only (fun _ => False) w w' ∧ w.heap.size ≤ b ∧ w.heap.size ≤ mi ∧ w.heap.size ≤ mp := by
  have hmk : ∀ W : World, (Instr.makeMap 50 none).run Tryd.prog W = .ok (.map (some W.heap.size)) (W.alloc (.map #[] 0)) := fun W => by first | rfl | simp [Instr.makeMap]
  have HST := Lib.hid (Tb.start w)
  go_enter Tryd.func8, Tryd.ntmps8
  go_wp2_with fail
  have HA : Hid (Tb (w.heap.size + 2) w.heap.size (w.heap.size + 1) 0 0 (.map []) (.map []) (((w.alloc (.map #[] 0)).alloc (.map #[] 0)).alloc (.cells #[.map (some w.heap.size), .map (some (w.heap.size + 1))] 52)) ∧ Only (fun _ => False) w (((w.alloc (.map #[] 0)).alloc (.map #[] 0)).alloc (.cells #[.map (some w.heap.size), .map (some (w.heap.size + 1))] 52))) := HST
  have hz : (((w.alloc (.map #[] 0)).alloc (.map #[] 0)).alloc (.cells #[.map (some w.heap.size), .map (some (w.heap.size + 1))] 52)).heap.size = w.heap.size + 1 + 1 + 1 := by simp
  generalize ((w.alloc (.map #[] 0)).alloc (.map #[] 0)).alloc (.cells #[.map (some w.heap.size), .map (some (w.heap.size + 1))] 52) = w0 at *
  rw [← hz]
  clear HST hz
  refine (HA.out.1.putsI 1200 1 nm0 (by decide) nm0_le (by decide)).mono ?_
  rintro e w1 ⟨rfl, ht, ho⟩
  replace HA := Lib.hid (And.intro ht (Only.cut HA.out.2 ho (fun q e => by rcases e with e | e <;> omega)))
  clear ht ho
  go_wp2_with fail
  refine (HA.out.1.putsP 1200 5 nm1 (by decide) nm1_le (by decide)).mono ?_
  rintro e w2 ⟨rfl, ht, ho⟩
  replace HA := Lib.hid (And.intro ht (Only.cut HA.out.2 ho (fun q e => by rcases e with e | e <;> omega)))
  clear ht ho
  go_wp2_with fail
  refine (HA.out.1.putsI 1100 2 nm2 (by decide) nm2_le (by decide)).mono ?_
  rintro e w3 ⟨rfl, ht, ho⟩
  replace HA := Lib.hid (And.intro ht (Only.cut HA.out.2 ho (fun q e => by rcases e with e | e <;> omega)))
  clear ht ho
  go_wp2_with fail
  refine (HA.out.1.putsI 1050 2 nm3 (by decide) nm3_le (by decide)).mono ?_
  rintro e w4 ⟨rfl, ht, ho⟩
  replace HA := Lib.hid (And.intro ht (Only.cut HA.out.2 ho (fun q e => by rcases e with e | e <;> omega)))
  clear ht ho
  go_wp2_with fail
  refine (HA.out.1.putsI 1000 2 nm4 (by decide) nm4_le (by decide)).mono ?_
  rintro e w5 ⟨rfl, ht, ho⟩
  replace HA := Lib.hid (And.intro ht (Only.cut HA.out.2 ho (fun q e => by rcases e with e | e <;> omega)))
  clear ht ho
  go_wp2_with fail
  refine (HA.out.1.putsP 900 4 nm5 (by decide) nm5_le (by decide)).mono ?_
  rintro e w6 ⟨rfl, ht, ho⟩
  replace HA := Lib.hid (And.intro ht (Only.cut HA.out.2 ho (fun q e => by rcases e with e | e <;> omega)))
  clear ht ho
  go_wp2_with fail
  refine (HA.out.1.putsI 700 1 nm6 (by decide) nm6_le (by decide)).mono ?_
  rintro e w7 ⟨rfl, ht, ho⟩
  replace HA := Lib.hid (And.intro ht (Only.cut HA.out.2 ho (fun q e => by rcases e with e | e <;> omega)))
  clear ht ho
  go_wp2_with fail
  refine (HA.out.1.putsI 500 3 nm7 (by decide) nm7_le (by decide)).mono ?_
  rintro e w8 ⟨rfl, ht, ho⟩
  replace HA := Lib.hid (And.intro ht (Only.cut HA.out.2 ho (fun q e => by rcases e with e | e <;> omega)))
  clear ht ho
  go_wp2_with fail
  refine (HA.out.1.putsI 400 3 nm8 (by decide) nm8_le (by decide)).mono ?_
  rintro e w9 ⟨rfl, ht, ho⟩
  replace HA := Lib.hid (And.intro ht (Only.cut HA.out.2 ho (fun q e => by rcases e with e | e <;> omega)))
  clear ht ho
  go_wp2_with fail
  refine (HA.out.1.putsI 200 2 nm9 (by decide) nm9_le (by decide)).mono ?_
  rintro e w10 ⟨rfl, ht, ho⟩
  replace HA := Lib.hid (And.intro ht (Only.cut HA.out.2 ho (fun q e => by rcases e with e | e <;> omega)))
  clear ht ho
  go_wp2_with fail
  refine (HA.out.1.putsP 200 4 nm10 (by decide) nm10_le (by decide)).mono ?_
  rintro e w11 ⟨rfl, ht, ho⟩
  replace HA := Lib.hid (And.intro ht (Only.cut HA.out.2 ho (fun q e => by rcases e with e | e <;> omega)))
  clear ht ho
  go_wp2_with fail
  go_ret
  exact ⟨_, _, _, rfl, HA.out.1, HA.out.2, by omega, by omega, by omega⟩
end Go.Proofs.YtodgjkdhkohckaaDoor.opers
