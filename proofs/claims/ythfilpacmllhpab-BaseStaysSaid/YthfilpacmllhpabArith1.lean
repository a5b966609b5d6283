

/- Arithmetic: balls, and terms of laid arguments. -/
import Derived.Test.YthfilpacmllhpabTermRow
import Derived.Test.YthfilpacmllhpabTermE
import Derived.Test.YthfilpacmllhpabTerm64
import Derived.Deep.RegionHeld3
namespace Go.Proofs.Ythfilpacmllhpab.terms
open Go.RowKit Go.Proofs.Ythfilpacmllhpab.own Go.Maps
def zeroT : T := .mk 0 0 ⟨#[]⟩ []
def sAtom (s : ByteArray) : T := .mk 3 0 s []
def sInt (n : Int) : T := .mk 2 n ⟨#[]⟩ []
def nError : ByteArray := ⟨#[101, 114, 114, 111, 114]⟩
def nType : ByteArray := ⟨#[116, 121, 112, 101]⟩
def nInst : ByteArray := ⟨#[105, 110, 115, 116]⟩
def nSize : ByteArray := ⟨#[115, 105, 122, 101]⟩
def nEval : ByteArray := ⟨#[101, 118, 97, 108]⟩
def ballF (t : T) : T := .mk 4 0 nError [t]
def instF : T := ballF (sAtom nInst)
def sizeF : T := ballF (sAtom nSize)
def typeF (s : ByteArray) (t : T) : T := ballF (.mk 4 0 nType [sAtom s, t])
def wrongF (s : ByteArray) : T := ballF (.mk 4 0 nEval [sAtom s])
open Classical in
noncomputable def indF (t : T) : T := if t.k = 3 ∨ t.k = 4 then (if t.Ok then .mk 4 0 ⟨#[47]⟩ [sAtom t.s, sInt t.l.length] else zeroT) else zeroT
theorem fits_k {k : Int} (h : 0 ≤ k ∧ k ≤ 4) : Fits k := ⟨by omega, by omega⟩
theorem sane_atom {s : ByteArray} (h : s.size ≤ maxLen) : (sAtom s).Sane := ⟨fits_k (k := 3) (by decide), fits_k (k := 0) (by decide), h, Nat.zero_le _⟩
theorem sane_int {n : Int} (h : Fits n) : (sInt n).Sane := ⟨fits_k (k := 2) (by decide), h, Nat.zero_le _, Nat.zero_le _⟩
theorem sane_comp {s : ByteArray} {l : List T} (h : s.size ≤ maxLen) (hl : l.length ≤ maxLen) : (T.mk 4 0 s l).Sane := ⟨fits_k (k := 4) (by decide), fits_k (k := 0) (by decide), h, hl⟩
theorem sane_zero : zeroT.Sane := ⟨fits_k (k := 0) (by decide), fits_k (k := 0) (by decide), Nat.zero_le _, Nat.zero_le _⟩
theorem small_lit {n : Nat} (h : n ≤ 1000) : n ≤ maxLen := by unfold maxLen; omega
/-- Blocks of which P tells, and such as were made since. -/
abbrev NewP (P : Nat → Prop) (w w' : World) (k : Nat) : Prop := P k ∨ (w.heap.size ≤ k ∧ k < w'.heap.size)
/-- What answers a term answers that one, in such blocks, and leaves what was. -/
def Ans (P : Nat → Prop) (t : T) (w : World) (e : Ending) (w' : World) : Prop := ∃ ao cap, e = .returned (tv t ao cap) ∧ Row (NewP P w w') w' ao t.l ∧ Only (fun _ => False) w w'
abbrev no (_ : Nat) : Prop := False
/-- Comp, of arguments that were just laid. -/
theorem Comp_its (s : ByteArray) (its : List It) (cs : Array Value) (w : World) (b : Nat) (hbk : w.heap.size = b) (hcs : cs = (its.flatMap encIt).toArray) (hs : s.size ≤ maxLen) (hz : sizes (its.map (·.t)) ≤ 1000000) (h : ∀ x ∈ its, x.t.Sane ∧ Lies w x.ao x.t.l) :
    Calls Try.prog 70 #[.string s, .slice (some ⟨b, 0, none⟩) (its.map (·.t)).length (its.map (·.t)).length] (w.alloc (.cells cs 31)) (Ans no (compF s (its.map (·.t))) w) := by
  subst hbk
  have ho : Only (fun _ => False) w (w.alloc (.cells cs 31)) := Only.alloc _ _ _
  have hr := Row.ofBlock (P := fun k => k < (w.alloc (.cells cs 31)).heap.size) (heap_alloc_new w (.cells cs 31)) hcs (by simp) (fun i x hx => ⟨(h x (List.mem_of_getElem? hx)).1, (h x (List.mem_of_getElem? hx)).2.later ho⟩)
  refine (Comp_any s _ _ _ _ hs hr hz).mono ?_
  rintro e w' ⟨ao', cap', h1, h2, _, h4⟩
  have := ho.size
  exact ⟨ao', cap', h1, h2.mono (fun k hk => .inr ⟨Nat.le_trans this hk.1, hk.2⟩), ho.same h4⟩
theorem rComp_its {P : Nat → Prop} (s : ByteArray) (its : List It) (cs : Array Value) (w : World) (b : Nat) (hbk : w.heap.size = b) (hcs : cs = (its.flatMap encIt).toArray) (hs : s.size ≤ maxLen) (hz : (its.map (·.t)).length ≤ 1000000) (hP : ∀ k, P k → k < w.heap.size) (h : ∀ x ∈ its, x.t.Sane ∧ Row P w x.ao x.t.l) :
    Calls Try.prog 26 #[.string s, .slice (some ⟨b, 0, none⟩) (its.map (·.t)).length (its.map (·.t)).length] (w.alloc (.cells cs 31)) (Ans P (compF s (its.map (·.t))) w) := by
  subst hbk
  have ho : Only (fun _ => False) w (w.alloc (.cells cs 31)) := Only.alloc _ _ _
  have hsz : (w.alloc (.cells cs 31)).heap.size = w.heap.size + 1 := by simp
  have hr := Row.ofBlock (P := fun k => P k ∨ k = w.heap.size) (heap_alloc_new w (.cells cs 31)) hcs (.inr rfl) (fun i x hx => ⟨(h x (List.mem_of_getElem? hx)).1, ((h x (List.mem_of_getElem? hx)).2.only ho hP (fun _ _ e => e)).mono (fun k hk => .inl hk)⟩)
  refine (rComp_row s _ _ _ _ hs hr (fun k hk => by rcases hk with hk | hk; exact Nat.lt_of_lt_of_le (hP k hk) ho.size; omega) hz).mono ?_
  rintro e w' ⟨ao', cap', h1, h2, _, h4⟩
  have := h4.size
  exact ⟨ao', cap', h1, h2.mono (fun k hk => by
    rcases hk with (hk | hk) | hk
    · exact .inl hk
    · exact .inr (by omega)
    · exact .inr (by omega)), ho.same h4⟩
theorem Comp_one (s : ByteArray) (t : T) (ao : Option Addr) (cap : Nat) (w : World) (b : Nat) (hbk : w.heap.size = b) (hs : s.size ≤ maxLen) (ht : t.Sane) (hl : Row (fun k => k < w.heap.size) w ao t.l) (hz : t.size ≤ 900000) :
    Calls Try.prog 70 #[.string s, .slice (some ⟨b, 0, none⟩) 1 1] (w.alloc (.cells #[.int .i64 t.k, .int .i64 t.n, .string t.s, .slice ao t.l.length cap] 31)) fun e w' => ∃ ao' cap', e = .returned (.agg #[.int .i64 4, .int .i64 0, .string s, .slice ao' 1 cap']) ∧ Row (NewP no w w') w' ao' [t] ∧ Only (fun _ => False) w w' :=
  Comp_its s [⟨t, ao, cap⟩] _ w b hbk rfl hs (by simp [sizes]; omega) (fun x hx => by rw [List.mem_singleton.1 hx]; exact ⟨ht, hl⟩)
theorem rComp_one {P : Nat → Prop} (s : ByteArray) (t : T) (ao : Option Addr) (cap : Nat) (w : World) (b : Nat) (hbk : w.heap.size = b) (hs : s.size ≤ maxLen) (ht : t.Sane) (hl : Row P w ao t.l) (hP : ∀ k, P k → k < w.heap.size) :
    Calls Try.prog 26 #[.string s, .slice (some ⟨b, 0, none⟩) 1 1] (w.alloc (.cells #[.int .i64 t.k, .int .i64 t.n, .string t.s, .slice ao t.l.length cap] 31)) fun e w' => ∃ ao' cap', e = .returned (.agg #[.int .i64 4, .int .i64 0, .string s, .slice ao' 1 cap']) ∧ Row (NewP P w w') w' ao' [t] ∧ Only (fun _ => False) w w' :=
  rComp_its s [⟨t, ao, cap⟩] _ w b hbk rfl hs (by simp) hP (fun x hx => by rw [List.mem_singleton.1 hx]; exact ⟨ht, hl⟩)
theorem Comp_two (s : ByteArray) (t u : T) (ao bo : Option Addr) (cap bcap : Nat) (w : World) (b : Nat) (hbk : w.heap.size = b) (hs : s.size ≤ maxLen) (ht : t.Sane) (hl : Row (fun k => k < w.heap.size) w ao t.l) (hu : u.Sane) (hl' : Row (fun k => k < w.heap.size) w bo u.l) (hz : t.size ≤ 400000) (hz' : u.size ≤ 400000) :
    Calls Try.prog 70 #[.string s, .slice (some ⟨b, 0, none⟩) 2 2] (w.alloc (.cells #[.int .i64 t.k, .int .i64 t.n, .string t.s, .slice ao t.l.length cap, .int .i64 u.k, .int .i64 u.n, .string u.s, .slice bo u.l.length bcap] 31)) fun e w' => ∃ ao' cap', e = .returned (.agg #[.int .i64 4, .int .i64 0, .string s, .slice ao' 2 cap']) ∧ Row (NewP no w w') w' ao' [t, u] ∧ Only (fun _ => False) w w' :=
  Comp_its s [⟨t, ao, cap⟩, ⟨u, bo, bcap⟩] _ w b hbk rfl hs (by simp [sizes]; omega) (fun x hx => by
    rcases List.mem_cons.1 hx with rfl | hx
    · exact ⟨ht, hl⟩
    · rw [List.mem_singleton.1 hx]; exact ⟨hu, hl'⟩)
theorem rComp_two {P : Nat → Prop} (s : ByteArray) (t u : T) (ao bo : Option Addr) (cap bcap : Nat) (w : World) (b : Nat) (hbk : w.heap.size = b) (hs : s.size ≤ maxLen) (ht : t.Sane) (hl : Row P w ao t.l) (hu : u.Sane) (hl' : Row P w bo u.l) (hP : ∀ k, P k → k < w.heap.size) :
    Calls Try.prog 26 #[.string s, .slice (some ⟨b, 0, none⟩) 2 2] (w.alloc (.cells #[.int .i64 t.k, .int .i64 t.n, .string t.s, .slice ao t.l.length cap, .int .i64 u.k, .int .i64 u.n, .string u.s, .slice bo u.l.length bcap] 31)) fun e w' => ∃ ao' cap', e = .returned (.agg #[.int .i64 4, .int .i64 0, .string s, .slice ao' 2 cap']) ∧ Row (NewP P w w') w' ao' [t, u] ∧ Only (fun _ => False) w w' :=
  rComp_its s [⟨t, ao, cap⟩, ⟨u, bo, bcap⟩] _ w b hbk rfl hs (by simp) hP (fun x hx => by
    rcases List.mem_cons.1 hx with rfl | hx
    · exact ⟨ht, hl⟩
    · rw [List.mem_singleton.1 hx]; exact ⟨hu, hl'⟩)
/-- A result's cell that was just laid. -/
abbrev zeroW (w : World) : World := w.alloc (.cells #[.int .i64 0, .int .i64 0, .string ⟨#[]⟩, .slice none 0 0] 31)
abbrev Zero (b : Nat) (w : World) : Prop := Quad b (.int .i64 0) (.int .i64 0) (.string ⟨#[]⟩) (.slice none 0 0) w
theorem Zero.new (w : World) : Zero w.heap.size (zeroW w) := heap_alloc_new _ _
/-- A row is what it was, where a block that it doesn't lie in is stored into. -/
theorem Row.past {P : Nat → Prop} {w w' : World} {ao : Option Addr} {l : List T} (b : Nat) (h : Row P w ao l) (ho : Only (· = b) w w') (hlt : ∀ k, P k → k < w.heap.size) (hb : ∀ k, P k → k ≠ b) : Row P w' ao l := h.only ho hlt (fun k hk e => hb k hk e)
/-- The last store of a result: the row lies elsewhere. -/
theorem Row.fin {P : Nat → Prop} {w W w1 w2 : World} {ao : Option Addr} {l : List T} {b : Nat} (h : Row (NewP P W w1) w1 ao l) (ho : Only (· = b) w1 w2) (hb : w.heap.size ≤ b) (hbW : b < W.heap.size) (h1 : W.heap.size ≤ w1.heap.size) (hP : ∀ k, P k → k < w.heap.size) : Row (NewP P w w2) w2 ao l := by
  have h2 := ho.size
  refine (h.past b ho (fun k hk => ?_) (fun k hk => ?_)).mono (fun k hk => ?_)
  · rcases hk with hk | hk
    · have := hP k hk; omega
    · exact hk.2
  · rcases hk with hk | hk
    · have := hP k hk; omega
    · omega
  · rcases hk with hk | hk
    · exact .inl hk
    · exact .inr ⟨by omega, by omega⟩
theorem no_lt {w : World} : ∀ k, no k → k < w.heap.size := fun _ h => h.elim
end Go.Proofs.Ythfilpacmllhpab.terms
