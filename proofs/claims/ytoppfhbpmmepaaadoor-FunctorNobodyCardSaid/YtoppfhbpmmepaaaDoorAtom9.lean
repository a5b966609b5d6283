
/- A table through many calls; what must come of every program. -/
import Derived.Test.YtoppfhbpmmepaaaDoorAtom8
namespace Go.Proofs.YtoppfhbpmmepaaaDoor.atoms
open Go.RowKit Go.Proofs.YtoppfhbpmmepaaaDoor.own Go.Maps

/-- A table, in a world that came of w0. -/
structure St (S : Nat → Prop) (b : Nat) (lim made : Int) (sl : List ASlot) (w0 w : World) : Prop where
  tab : Tab S w0.heap.size b lim made sl w
  listed : Listed w
  good : Good lim sl
  hgl : ¬ S 0
  below : Below w0.heap.size w0 w
section
variable {S : Nat → Prop} {b : Nat} {lim made made' : Int} {sl sl' : List ASlot} {w0 w w' : World}
theorem Listed.lt (h : Listed w) : (0 : Nat) < w.heap.size := lt_of_cell? (h 0 (by omega))
theorem Listed.only {S' : Nat → Prop} (h : Listed w) (ho : Only S' w w') (hn : ¬ S' 0) : Listed w' := fun i hi => (ho.cell (p := ⟨0, i, none⟩) h.lt hn).trans (h i hi)
theorem St.kept (h : St S b lim made sl w0 w) (hk : Kept S w0.heap.size b lim made' sl' w w') (hG : Good lim sl') : St (Grew S w w') b lim made' sl' w0 w' := by
  have hlt := h.listed.lt
  refine ⟨hk.1.tab, h.listed.only hk.2 h.hgl, hG, ?_, h.below.trans (hk.2.below h.below.size (fun k _ e => (h.tab.bound.2.2.2 k e).1))⟩
  rintro (e | e)
  · exact h.hgl e
  · omega
theorem St.new (hL : Listed w) (hk : Tab (Grew (fun _ => False) w w') w.heap.size w.heap.size lim 0 (firstS 15) w' ∧ Only (fun _ => False) w w') (h0 : 15 ≤ lim) (h1 : lim ≤ 16384) : St (Grew (fun _ => False) w w') w.heap.size lim 0 (firstS 15) w w' := by
  have hlt := hL.lt
  refine ⟨hk.1, hL.only hk.2 (fun e => e), Good.first h0 h1, ?_, hk.2.to_below⟩
  rintro (e | e)
  · exact e
  · omega
theorem St.still (h : St S b lim made sl w0 w) {S' : Nat → Prop} (ho : Only S' w w') (hS : ∀ k, S k → ¬ S' k) (hg : ¬ S' 0) (hb : Below w0.heap.size w w') : St S b lim made sl w0 w' :=
  ⟨h.tab.only ho hS, h.listed.only ho hg, h.good, h.hgl, h.below.trans hb⟩

theorem st_intern (n : ByteArray) (h : St S b lim made sl w0 w) (hm0 : 0 ≤ made) (hm1 : made ≤ 4294967296) (r : IRes) (hr : internF lim made sl n = r) :
    Calls Tryd.prog 33 #[.pointer (some ⟨b, 0, none⟩), .string n] w fun e w' => e = .returned (.tuple #[.int .i64 r.id, .int .i64 r.err]) ∧ St (Grew S w w') b lim r.made r.sl w0 w' ∧ Only S w w' := by
  subst hr
  refine (intern_any n h.tab h.listed h.good h.hgl hm0 hm1).mono ?_
  rintro e w' ⟨rfl, hk⟩
  exact ⟨rfl, h.kept hk (h.good.intern n), hk.2⟩
theorem st_find (n : ByteArray) (h : St S b lim made sl w0 w) (hn : n.size ≤ maxLen) :
    Calls Tryd.prog 42 #[.pointer (some ⟨b, 0, none⟩), .string n] w fun e w' => e = .returned (.tuple #[.int .i64 (findI sl n), .bool (findB sl n)]) ∧ St (Grew S w w') b lim made sl w0 w' ∧ Only S w w' := by
  refine (find_any n h.tab h.listed h.good h.hgl hn).mono ?_
  rintro e w' ⟨rfl, hk⟩
  exact ⟨rfl, h.kept hk h.good, hk.2⟩
theorem st_name (i : Int) (h : St S b lim made sl w0 w) :
    Calls Tryd.prog 41 #[.pointer (some ⟨b, 0, none⟩), .int .i64 i] w fun e w' => e = .returned (.tuple #[.string (nameS sl i), .int .i64 (errS sl i)]) ∧ St (Grew S w w') b lim made sl w0 w' ∧ Only S w w' := by
  refine (name_any i h.tab h.listed h.good h.hgl).mono ?_
  rintro e w' ⟨rfl, hk⟩
  exact ⟨rfl, h.kept hk h.good, hk.2⟩
theorem st_mark (i : Int) (h : St S b lim made sl w0 w) :
    Calls Tryd.prog 40 #[.pointer (some ⟨b, 0, none⟩), .int .i64 i] w fun e w' => e = .returned (.int .i64 (errS sl i)) ∧ St (Grew S w w') b lim made (markF sl i) w0 w' ∧ Only S w w' := by
  refine (mark_any i h.tab h.listed h.good h.hgl).mono ?_
  rintro e w' ⟨rfl, hk⟩
  exact ⟨rfl, h.kept hk (h.good.mark i), hk.2⟩
theorem st_sweep (h : St S b lim made sl w0 w) :
    Calls Tryd.prog 22 #[.pointer (some ⟨b, 0, none⟩)] w fun e w' => e = .returned (.int .i64 ((used sl : Int) - (used (sweepTo sl sl.length) : Int))) ∧ St (Grew S w w') b lim made (sweepTo sl sl.length) w0 w' ∧ Only S w w' := by
  refine (sweep_all h.tab h.listed h.good h.hgl).mono ?_
  rintro e w' ⟨rfl, hk⟩
  exact ⟨rfl, h.kept hk h.good.sweep, hk.2⟩
theorem st_len (h : St S b lim made sl w0 w) :
    Calls Tryd.prog 16 #[.pointer (some ⟨b, 0, none⟩)] w fun e w' => e = .returned (.int .i64 (used sl)) ∧ St (Grew S w w') b lim made sl w0 w' ∧ Only S w w' := by
  refine (len_any h.tab h.listed h.good.lo h.hgl).mono ?_
  rintro e w' ⟨rfl, hk⟩
  exact ⟨rfl, h.kept hk h.good, hk.2⟩
end

def nA : ByteArray := ⟨#[97]⟩
def nB : ByteArray := ⟨#[98]⟩
def nC : ByteArray := ⟨#[99]⟩
def s1 : List ASlot := firstS 15 ++ [⟨nA, true, false⟩]
def s2 : List ASlot := firstS 15 ++ [⟨nA, true, false⟩, ⟨nB, true, false⟩]
def s3 : List ASlot := firstS 15 ++ [⟨nA, true, false⟩, ⟨nB, true, true⟩]
def s4 : List ASlot := firstS 15 ++ [freeSlot, ⟨nB, true, false⟩]
def s5 : List ASlot := firstS 15 ++ [⟨nC, true, false⟩, ⟨nB, true, false⟩]
theorem i1 : internF 20 0 (firstS 15) nA = ⟨15, 0, s1, 1⟩ := by kernel_rfl
theorem i2 : internF 20 1 s1 nB = ⟨16, 0, s2, 2⟩ := by kernel_rfl
theorem i3 : markF s2 16 = s3 := by kernel_rfl
theorem i3e : errS s2 16 = 0 := by kernel_rfl
theorem i4 : sweepTo s3 s3.length = s4 := by kernel_rfl
theorem i4u : ((used s3 : Int) - (used s4 : Int)) = 1 := by kernel_rfl
theorem i5 : internF 20 2 s4 nC = ⟨15, 0, s5, 3⟩ := by kernel_rfl
theorem i6 : nameS s5 15 = nC := by kernel_rfl
theorem i6e : errS s5 15 = 0 := by kernel_rfl
theorem i7 : findI s5 nB = 16 := by kernel_rfl
theorem i7b : findB s5 nB = true := by kernel_rfl
theorem i8 : (used s5 : Int) = 17 := by kernel_rfl
theorem i9 : (s5.length : Int) = 17 := by kernel_rfl
theorem i10 : markedS s5 16 = false := by kernel_rfl

end Go.Proofs.YtoppfhbpmmepaaaDoor.atoms
