/- Environments and choices, plain: rows of words, chains of environments, what a choice keeps. -/
import Derived.WalkKit
import Derived.KernelRfl
namespace Go.Proofs.Ythfilpacmllhpaa.stk
open Go.RowKit

/-- A number as a word, and back. -/
def uw (z : Int) : Int := IntKind.u64.wrap z
def Fits (z : Int) : Prop := -9223372036854775808 ≤ z ∧ z < 9223372036854775808
theorem uw_mod (z : Int) : uw z = z % 18446744073709551616 := by simp [uw, IntKind.wrap, IntKind.bits, IntKind.signed]
theorem wrap_uw {z : Int} (h : Fits z) : wrap64 (uw z) = z := by
  rw [uw_mod]; unfold wrap64; have := h.1; have := h.2; omega
theorem uw_inj {a b : Int} (ha : Fits a) (hb : Fits b) (h : uw a = uw b) : a = b := by
  rw [← wrap_uw ha, ← wrap_uw hb, h]
theorem fits_nat {n : Nat} (h : n ≤ 1048576) : Fits (n : Int) := ⟨by omega, by omega⟩

/-- An environment: where it begins, its slots, where it goes on. -/
structure Fr where
  base : Nat
  ys : List Int
  cl : Int
  at' : Int

def headB : List Fr → Int
  | [] => -1
  | f :: _ => f.base
def endF : List Fr → Nat
  | [] => 0
  | f :: _ => f.base + 4 + f.ys.length

/-- The row of an environment whose previous one begins at p. -/
structure FrAt (xs : List Int) (f : Fr) (p : Int) : Prop where
  h0 : xs[f.base]? = some (uw p)
  h1 : xs[f.base + 1]? = some (uw f.cl)
  h2 : xs[f.base + 2]? = some (uw f.at')
  h3 : xs[f.base + 3]? = some (uw f.ys.length)
  ys : ∀ i y, f.ys[i]? = some y → xs[f.base + 4 + i]? = some y
  fit : Fits f.cl ∧ Fits f.at' ∧ f.ys.length ≤ 64

def Ch (xs : List Int) : List Fr → Prop
  | [] => True
  | f :: fs => FrAt xs f (headB fs) ∧ endF fs ≤ f.base ∧ Ch xs fs

theorem FrAt.le {xs : List Int} {f : Fr} {p : Int} (h : FrAt xs f p) : f.base + 4 + f.ys.length ≤ xs.length := by
  have h3 : f.base + 3 < xs.length := (List.getElem?_eq_some_iff.1 h.h3).1
  by_cases hz : f.ys.length = 0
  · omega
  · have hl : f.ys.length - 1 < f.ys.length := by omega
    have := h.ys (f.ys.length - 1) _ (List.getElem?_eq_getElem hl)
    have := (List.getElem?_eq_some_iff.1 this).1
    omega
theorem FrAt.agree {xs xs' : List Int} {f : Fr} {p : Int} {n : Nat} (h : FrAt xs f p) (hn : f.base + 4 + f.ys.length ≤ n) (ha : ∀ i, i < n → xs'[i]? = xs[i]?) : FrAt xs' f p :=
  ⟨by rw [ha _ (by omega)]; exact h.h0, by rw [ha _ (by omega)]; exact h.h1, by rw [ha _ (by omega)]; exact h.h2, by rw [ha _ (by omega)]; exact h.h3,
   fun i y hy => by have := (List.getElem?_eq_some_iff.1 hy).1; rw [ha _ (by omega)]; exact h.ys i y hy, h.fit⟩
theorem Ch.agree {xs xs' : List Int} {n : Nat} : ∀ {fs : List Fr}, Ch xs fs → endF fs ≤ n → (∀ i, i < n → xs'[i]? = xs[i]?) → Ch xs' fs
  | [], _, _, _ => trivial
  | f :: fs, h, hn, ha => ⟨h.1.agree hn ha, h.2.1, Ch.agree h.2.2 (by have := h.2.1; simp only [endF] at hn; omega) ha⟩
theorem Ch.end_le {xs : List Int} : ∀ {fs : List Fr}, Ch xs fs → endF fs ≤ xs.length
  | [], _ => Nat.zero_le _
  | _ :: _, h => h.1.le
theorem Ch.tail {xs : List Int} : ∀ {fs : List Fr}, Ch xs fs → Ch xs fs.tail
  | [], _ => trivial
  | _ :: _, h => h.2.2
theorem Ch.head_lt {xs : List Int} {fs : List Fr} (h : Ch xs fs) : headB fs < xs.length := by
  cases fs with
  | nil => simp only [headB]; omega
  | cons f fs => have := h.1.le; simp only [headB]; omega
theorem Ch.mem_end {xs : List Int} : ∀ {fs : List Fr} {f : Fr}, Ch xs fs → f ∈ fs → f.base + 4 + f.ys.length ≤ endF fs
  | g :: fs, f, h, hm => by
    rcases List.mem_cons.1 hm with rfl | hm
    · exact Nat.le_refl _
    · have := Ch.mem_end h.2.2 hm; have := h.2.1; simp only [endF]; omega
theorem Ch.mem_row {xs : List Int} : ∀ {fs : List Fr} {f : Fr}, Ch xs fs → f ∈ fs → ∃ p, FrAt xs f p
  | g :: fs, f, h, hm => by
    rcases List.mem_cons.1 hm with rfl | hm
    · exact ⟨_, h.1⟩
    · exact Ch.mem_row h.2.2 hm

/-- A choice: what lies in memory of it, and the environments that it keeps. -/
structure Cho where
  k : Int
  ao : Option Addr
  cap : Nat
  args : List Int
  c : Int
  a : Int
  g : Int
  n : Int
  f : Int
  env : Int
  top : Nat
  fs : List Fr

def topOf (cs : List Cho) : Nat := match cs.getLast? with
  | none => 0
  | some c => c.top

/-- A stack's content: words, the current environments, choices. -/
structure St where
  xs : List Int
  cur : List Fr
  cs : List Cho
def St.top (s : St) : Nat := max (topOf s.cs) (endF s.cur)

def St.all (s : St) : List Fr := s.cur ++ s.cs.flatMap Cho.fs
/-- Two environments are the same row, or lie apart. -/
def Apart (f g : Fr) : Prop := f.base = g.base ∨ f.base + 4 + f.ys.length ≤ g.base ∨ g.base + 4 + g.ys.length ≤ f.base
structure St.Ok (s : St) : Prop where
  cur : Ch s.xs s.cur
  apart : ∀ f ∈ s.all, ∀ g ∈ s.all, Apart f g
  each : ∀ c ∈ s.cs, Ch s.xs c.fs ∧ endF c.fs ≤ c.top ∧ c.top ≤ topOf s.cs ∧ c.env = headB c.fs
  mono : s.cs.Pairwise (fun c d => c.top ≤ d.top)
  tops : topOf s.cs ≤ s.xs.length

theorem topOf_snoc (cs : List Cho) (c : Cho) : topOf (cs ++ [c]) = c.top := by simp [topOf]
theorem topOf_mem {cs : List Cho} (h : cs ≠ []) : ∃ c, cs.getLast? = some c ∧ topOf cs = c.top := by
  obtain ⟨c, hc⟩ : ∃ c, cs.getLast? = some c := ⟨_, List.getLast?_eq_some_getLast h⟩
  exact ⟨c, hc, by simp [topOf, hc]⟩
theorem top_le {s : St} (h : s.Ok) : s.top ≤ s.xs.length := by have := h.cur.end_le; have := h.tops; unfold St.top; omega

theorem drop_top {cs : List Cho} (hm : cs.Pairwise (fun c d => c.top ≤ d.top)) : ∀ c ∈ cs.dropLast, c.top ≤ topOf cs.dropLast := by
  intro c hc
  have hp : cs.dropLast.Pairwise (fun c d => c.top ≤ d.top) := hm.sublist (List.dropLast_sublist _)
  generalize cs.dropLast = l at *
  rcases List.eq_nil_or_concat l with rfl | ⟨l', d, rfl⟩
  · simp at hc
  · rw [List.concat_eq_append] at *
    rw [topOf_snoc]
    rcases List.mem_append.1 hc with h | h
    · exact (List.pairwise_append.1 hp).2.2 c h d (by simp)
    · rw [List.mem_singleton.1 h]
      exact Nat.le_refl _
theorem topOf_drop_le {cs : List Cho} (hm : cs.Pairwise (fun c d => c.top ≤ d.top)) : topOf cs.dropLast ≤ topOf cs := by
  rcases List.eq_nil_or_concat cs with rfl | ⟨l, d, rfl⟩
  · exact Nat.le_refl _
  · rw [List.concat_eq_append] at *
    rw [topOf_snoc, List.dropLast_concat]
    by_cases hn : l = []
    · subst hn; simp [topOf]
    · obtain ⟨c, hc, he⟩ := topOf_mem hn
      rw [he]
      exact (List.pairwise_append.1 hm).2.2 c (List.mem_of_getLast? hc) d (by simp)

theorem apart_sub {A B : List Fr} (h : ∀ f ∈ A, ∀ g ∈ A, Apart f g) (hs : ∀ f ∈ B, f ∈ A) : ∀ f ∈ B, ∀ g ∈ B, Apart f g := fun f hf g hg => h f (hs f hf) g (hs g hg)
theorem St.Ok.under {s : St} (h : s.Ok) : ∀ f ∈ s.all, f.base + 4 + f.ys.length ≤ s.top := by
  intro f hf
  rcases List.mem_append.1 hf with hf | hf
  · have := h.cur.mem_end hf; unfold St.top; omega
  · obtain ⟨c, hc, hf⟩ := List.mem_flatMap.1 hf
    obtain ⟨a, b, e, _⟩ := h.each c hc
    have := a.mem_end hf; unfold St.top; omega
theorem St.Ok.row {s : St} (h : s.Ok) : ∀ f ∈ s.all, ∃ p, FrAt s.xs f p := by
  intro f hf
  rcases List.mem_append.1 hf with hf | hf
  · exact h.cur.mem_row hf
  · obtain ⟨c, hc, hf⟩ := List.mem_flatMap.1 hf
    exact (h.each c hc).1.mem_row hf
/-! ### What each call makes of it -/
/-- Drop. -/
theorem St.Ok.drop {s : St} (h : s.Ok) : St.Ok { s with cs := s.cs.dropLast } :=
  ⟨h.cur, apart_sub h.apart (fun f hf => by
    rcases List.mem_append.1 hf with hf | hf
    · exact List.mem_append_left _ hf
    · obtain ⟨c, hc, hf⟩ := List.mem_flatMap.1 hf
      exact List.mem_append_right _ (List.mem_flatMap.2 ⟨c, List.dropLast_subset _ hc, hf⟩)), fun c hc => by
    obtain ⟨a, b, _, d⟩ := h.each c (List.dropLast_subset _ hc)
    exact ⟨a, b, drop_top h.mono c hc, d⟩, h.mono.sublist (List.dropLast_sublist _), Nat.le_trans (topOf_drop_le h.mono) h.tops⟩
/-- Push. -/
theorem St.Ok.push {s : St} (h : s.Ok) (c : Cho) (hf : c.fs = s.cur) (ht : c.top = s.top) (he : c.env = headB s.cur) : St.Ok { s with cs := s.cs ++ [c] } := by
  have hle : topOf s.cs ≤ c.top := by rw [ht]; unfold St.top; omega
  refine ⟨h.cur, apart_sub h.apart (fun f hf' => ?_), fun d hd => ?_, ?_, ?_⟩
  · rcases List.mem_append.1 hf' with hf' | hf'
    · exact List.mem_append_left _ hf'
    · obtain ⟨d, hd, hf'⟩ := List.mem_flatMap.1 hf'
      rcases List.mem_append.1 hd with hd | hd
      · exact List.mem_append_right _ (List.mem_flatMap.2 ⟨d, hd, hf'⟩)
      · rw [List.mem_singleton.1 hd, hf] at hf'
        exact List.mem_append_left _ hf'
  · rw [topOf_snoc]
    rcases List.mem_append.1 hd with hd | hd
    · obtain ⟨a, b, e, f⟩ := h.each d hd
      exact ⟨a, b, Nat.le_trans e hle, f⟩
    · obtain rfl := List.mem_singleton.1 hd
      refine ⟨by rw [hf]; exact h.cur, by rw [hf, ht]; unfold St.top; omega, Nat.le_refl _, by rw [hf]; exact he⟩
  · refine List.pairwise_append.2 ⟨h.mono, List.pairwise_singleton _ _, fun d hd e he => ?_⟩
    rw [List.mem_singleton.1 he]
    exact Nat.le_trans (h.each d hd).2.2.1 hle
  · rw [topOf_snoc, ht]
    exact top_le h
/-- Restore: the last choice's environments are the current ones. -/
theorem St.Ok.back {s : St} (h : s.Ok) (c : Cho) (hc : c ∈ s.cs) : St.Ok { s with cur := c.fs } := ⟨(h.each c hc).1, apart_sub h.apart (fun f hf => by
    rcases List.mem_append.1 hf with hf | hf
    · exact List.mem_append_right _ (List.mem_flatMap.2 ⟨c, hc, hf⟩)
    · exact List.mem_append_right _ hf), h.each, h.mono, h.tops⟩
/-- Dealloc. -/
theorem St.Ok.leave {s : St} (h : s.Ok) : St.Ok { s with cur := s.cur.tail } := ⟨h.cur.tail, apart_sub h.apart (fun f hf => by
    rcases List.mem_append.1 hf with hf | hf
    · exact List.mem_append_left _ (List.mem_of_mem_tail hf)
    · exact List.mem_append_right _ hf), h.each, h.mono, h.tops⟩
/-- Turn (a choice goes on with another one). -/
def turnLast (cs : List Cho) (n : Int) : List Cho := match cs.getLast? with
  | none => cs
  | some c => cs.dropLast ++ [{ c with n := n }]

/-- The words behind Alloc. -/
def allocW (xs : List Int) (base : Nat) (p cl at' : Int) (n : Nat) : List Int := xs.take base ++ [uw p, uw cl, uw at', uw n] ++ List.replicate n 0
theorem alloc_eq {xs : List Int} {base : Nat} (hb : base ≤ xs.length) (p cl at' : Int) (n : Nat) :
    ((((xs.take base ++ List.replicate (4 + n) 0).set base (uw p)).set (base + 1) (uw cl)).set (base + 2) (uw at')).set (base + 3) (uw n) = allocW xs base p cl at' n := by
  have hl : (xs.take base).length = base := by rw [List.length_take]; omega
  have hr : List.replicate (4 + n) (0 : Int) = 0 :: 0 :: 0 :: 0 :: List.replicate n 0 := by rw [Nat.add_comm]; rfl
  unfold allocW
  rw [hr]
  generalize xs.take base = t at *
  subst hl
  simp [List.set_append]
theorem alloc_len {xs : List Int} {base : Nat} (hb : base ≤ xs.length) (p cl at' : Int) (n : Nat) : (allocW xs base p cl at' n).length = base + 4 + n := by
  simp [allocW]; omega
theorem alloc_low {xs : List Int} {base : Nat} (hb : base ≤ xs.length) (p cl at' : Int) (n i : Nat) (hi : i < base) : (allocW xs base p cl at' n)[i]? = xs[i]? := by
  unfold allocW
  rw [List.append_assoc, List.getElem?_append_left (by rw [List.length_take]; omega), List.getElem?_take, if_pos hi]
theorem alloc_row {xs : List Int} {base : Nat} (hb : base ≤ xs.length) (p cl at' : Int) (n : Nat) (hn : n ≤ 64) (hc : Fits cl) (ha : Fits at') : FrAt (allocW xs base p cl at' n) ⟨base, List.replicate n 0, cl, at'⟩ p := by
  have hl : (xs.take base).length = base := by rw [List.length_take]; omega
  have key : ∀ j, (allocW xs base p cl at' n)[base + j]? = ([uw p, uw cl, uw at', uw n] ++ List.replicate n 0)[j]? := by
    intro j
    unfold allocW
    rw [List.append_assoc, List.getElem?_append_right (by omega), hl, Nat.add_sub_cancel_left]
  refine ⟨?_, ?_, ?_, ?_, ?_, ?_⟩
  · have := key 0; simpa using this
  · have := key 1; simpa using this
  · have := key 2; simpa using this
  · have := key 3; simpa using this
  · intro i y hy
    have := key (4 + i)
    rw [show base + (4 + i) = base + 4 + i by omega] at this
    show (allocW xs base p cl at' n)[base + 4 + i]? = some y
    rw [this, List.getElem?_append_right (by simp), ← hy]
    simp
  · refine ⟨hc, ha, ?_⟩
    show (List.replicate n (0 : Int)).length ≤ 64
    rw [List.length_replicate]
    exact hn
theorem St.Ok.alloc {s : St} (h : s.Ok) (cl at' : Int) (n : Nat) (hn : n ≤ 64) (hc : Fits cl) (ha : Fits at') :
    St.Ok { s with xs := allocW s.xs s.top (headB s.cur) cl at' n, cur := ⟨s.top, List.replicate n 0, cl, at'⟩ :: s.cur } := by
  have hb := top_le h
  have hlow := fun i (hi : i < s.top) => alloc_low hb (headB s.cur) cl at' n i hi
  refine ⟨⟨alloc_row hb _ cl at' n hn hc ha, ?_, h.cur.agree (n := s.top) (by unfold St.top; omega) hlow⟩, ?_, fun c hcm => ?_, h.mono, ?_⟩
  · show endF s.cur ≤ s.top
    unfold St.top; omega
  · intro f hf g hg
    have hu := h.under
    have hf' : f = ⟨s.top, List.replicate n 0, cl, at'⟩ ∨ f ∈ s.all := List.mem_cons.1 hf
    have hg' : g = ⟨s.top, List.replicate n 0, cl, at'⟩ ∨ g ∈ s.all := List.mem_cons.1 hg
    rcases hf' with rfl | hf' <;> rcases hg' with rfl | hg'
    · exact .inl rfl
    · exact .inr (.inr (hu g hg'))
    · exact .inr (.inl (hu f hf'))
    · exact h.apart f hf' g hg'
  · obtain ⟨a, b, e, f⟩ := h.each c hcm
    exact ⟨a.agree (n := s.top) (by unfold St.top; omega) hlow, b, e, f⟩
  · show topOf s.cs ≤ (allocW s.xs s.top (headB s.cur) cl at' n).length
    rw [alloc_len hb]
    unfold St.top
    omega
/-- Trim: the current environment's first n slots are left (no choice keeps it). -/
theorem St.Ok.trim {s : St} (h : s.Ok) {f : Fr} {fs : List Fr} (hcur : s.cur = f :: fs) (n : Nat) (hn : n ≤ f.ys.length) (hk : topOf s.cs ≤ f.base) :
    St.Ok { s with xs := s.xs.set (f.base + 3) (uw n), cur := { f with ys := f.ys.take n } :: fs } := by
  have hC := h.cur
  rw [hcur] at hC
  obtain ⟨hr, he, ht⟩ := hC
  have hlow : ∀ i, i < f.base → (s.xs.set (f.base + 3) (uw n))[i]? = s.xs[i]? := fun i hi => List.getElem?_set_ne (by omega)
  have hl : (f.ys.take n).length = n := by rw [List.length_take]; omega
  have hb := hr.le
  refine ⟨⟨⟨?_, ?_, ?_, ?_, ?_, ?_⟩, he, ht.agree he hlow⟩, ?_, fun c hc => ?_, h.mono, ?_⟩
  · show (s.xs.set (f.base + 3) (uw n))[f.base]? = _
    rw [List.getElem?_set_ne (by omega)]; exact hr.h0
  · show (s.xs.set (f.base + 3) (uw n))[f.base + 1]? = _
    rw [List.getElem?_set_ne (by omega)]; exact hr.h1
  · show (s.xs.set (f.base + 3) (uw n))[f.base + 2]? = _
    rw [List.getElem?_set_ne (by omega)]; exact hr.h2
  · show (s.xs.set (f.base + 3) (uw n))[f.base + 3]? = some (uw (f.ys.take n).length)
    rw [hl, List.getElem?_set_self (by omega)]
  · intro i y hy
    show (s.xs.set (f.base + 3) (uw n))[f.base + 4 + i]? = _
    rw [List.getElem?_set_ne (by omega)]
    rw [List.getElem?_take] at hy
    split at hy
    · exact hr.ys i y hy
    · cases hy
  · refine ⟨hr.fit.1, hr.fit.2.1, ?_⟩
    show (f.ys.take n).length ≤ 64
    have := hr.fit.2.2
    omega
  · have hall : s.all = f :: (fs ++ s.cs.flatMap Cho.fs) := by unfold St.all; rw [hcur]; rfl
    have hA := h.apart
    rw [hall] at hA
    have hrest : ∀ g ∈ fs ++ s.cs.flatMap Cho.fs, g.base + 4 + g.ys.length ≤ f.base := by
      intro g hg
      rcases List.mem_append.1 hg with hg | hg
      · exact Nat.le_trans (ht.mem_end hg) he
      · obtain ⟨c, hc, hg⟩ := List.mem_flatMap.1 hg
        obtain ⟨a, b, e, _⟩ := h.each c hc
        have := a.mem_end hg
        omega
    intro a ha b hb
    have ha' : a = { f with ys := f.ys.take n } ∨ a ∈ fs ++ s.cs.flatMap Cho.fs := List.mem_cons.1 ha
    have hb' : b = { f with ys := f.ys.take n } ∨ b ∈ fs ++ s.cs.flatMap Cho.fs := List.mem_cons.1 hb
    rcases ha' with rfl | ha' <;> rcases hb' with rfl | hb'
    · exact .inl rfl
    · exact .inr (.inr (hrest b hb'))
    · exact .inr (.inl (hrest a ha'))
    · exact hA a (List.mem_cons_of_mem _ ha') b (List.mem_cons_of_mem _ hb')
  · obtain ⟨a, b, e, g⟩ := h.each c hc
    exact ⟨a.agree (n := f.base) (by omega) hlow, b, e, g⟩
  · show topOf s.cs ≤ (s.xs.set _ _).length
    rw [List.length_set]; exact h.tops
/-! ### Set -/
def setF (b i : Nat) (v : Int) (f : Fr) : Fr := if f.base = b then { f with ys := f.ys.set i v } else f
theorem setF_base (b i : Nat) (v : Int) (f : Fr) : (setF b i v f).base = f.base := by unfold setF; split <;> rfl
theorem setF_len (b i : Nat) (v : Int) (f : Fr) : (setF b i v f).ys.length = f.ys.length := by unfold setF; split <;> simp
theorem setF_cl (b i : Nat) (v : Int) (f : Fr) : (setF b i v f).cl = f.cl ∧ (setF b i v f).at' = f.at' := by unfold setF; split <;> exact ⟨rfl, rfl⟩
theorem headB_set (b i : Nat) (v : Int) (fs : List Fr) : headB (fs.map (setF b i v)) = headB fs := by cases fs <;> simp [headB, setF_base]
theorem endF_set (b i : Nat) (v : Int) (fs : List Fr) : endF (fs.map (setF b i v)) = endF fs := by cases fs <;> simp [endF, setF_base, setF_len]
def setC (b i : Nat) (v : Int) (c : Cho) : Cho := { c with fs := c.fs.map (setF b i v) }
def St.put (s : St) (b i : Nat) (v : Int) : St := ⟨s.xs.set (b + 4 + i) v, s.cur.map (setF b i v), s.cs.map (setC b i v)⟩
theorem FrAt.put {xs : List Int} {f g : Fr} {p q : Int} (hf : FrAt xs f p) (hg : FrAt xs g q) (i : Nat) (v : Int) (hi : i < f.ys.length) (ha : Apart f g) : FrAt (xs.set (f.base + 4 + i) v) (setF f.base i v g) q := by
  have hlen : g.base = f.base → g.ys.length = f.ys.length := by
    intro e
    have h1 := hf.h3
    have h2 := hg.h3
    rw [e, h1] at h2
    have := uw_inj (fits_nat (by have := hf.fit.2.2; omega)) (fits_nat (by have := hg.fit.2.2; omega)) (Option.some.inj h2)
    omega
  have hne : ∀ j, j < 4 → g.base + j ≠ f.base + 4 + i := by
    intro j hj
    rcases ha with e | e | e <;> omega
  have e0 : ∀ j, j < 4 → (xs.set (f.base + 4 + i) v)[g.base + j]? = xs[g.base + j]? := fun j hj => List.getElem?_set_ne (Ne.symm (hne j hj))
  refine ⟨?_, ?_, ?_, ?_, ?_, ?_⟩
  · rw [setF_base]; exact (e0 0 (by omega)).trans hg.h0
  · rw [setF_base, (setF_cl _ _ _ _).1]; exact (e0 1 (by omega)).trans hg.h1
  · rw [setF_base, (setF_cl _ _ _ _).2]; exact (e0 2 (by omega)).trans hg.h2
  · rw [setF_base, setF_len]; exact (e0 3 (by omega)).trans hg.h3
  · intro j y hy
    rw [setF_base]
    have hjl : j < g.ys.length := by have := (List.getElem?_eq_some_iff.1 hy).1; rwa [setF_len] at this
    by_cases e : g.base = f.base
    · have he : (setF f.base i v g).ys = g.ys.set i v := by unfold setF; rw [if_pos e]
      rw [he] at hy
      rw [e]
      by_cases hij : i = j
      · subst hij
        rw [List.getElem?_set_self hjl] at hy
        rw [List.getElem?_set_self (by have := hf.le; omega)]
        exact hy
      · rw [List.getElem?_set_ne hij] at hy
        rw [List.getElem?_set_ne (by omega), ← e]
        exact hg.ys j y hy
    · have he : (setF f.base i v g).ys = g.ys := by unfold setF; rw [if_neg e]
      rw [he] at hy
      rw [List.getElem?_set_ne (by rcases ha with e' | e' | e' <;> omega)]
      exact hg.ys j y hy
  · rw [(setF_cl _ _ _ _).1, (setF_cl _ _ _ _).2, setF_len]; exact hg.fit
theorem Ch.put {xs : List Int} {f : Fr} {p : Int} (hf : FrAt xs f p) (i : Nat) (v : Int) (hi : i < f.ys.length) : ∀ {fs : List Fr}, Ch xs fs → (∀ g ∈ fs, Apart f g) → Ch (xs.set (f.base + 4 + i) v) (fs.map (setF f.base i v))
  | [], _, _ => trivial
  | g :: fs, h, ha => by
    refine ⟨?_, ?_, Ch.put hf i v hi h.2.2 (fun k hk => ha k (List.mem_cons_of_mem _ hk))⟩
    · rw [headB_set]; exact hf.put h.1 i v hi (ha g (by simp))
    · rw [endF_set, setF_base]; exact h.2.1
theorem topOf_put (b i : Nat) (v : Int) (cs : List Cho) : topOf (cs.map (setC b i v)) = topOf cs := by
  unfold topOf
  rw [List.getLast?_map]
  cases cs.getLast? <;> rfl
theorem St.Ok.put {s : St} (h : s.Ok) {f : Fr} {fs : List Fr} (hcur : s.cur = f :: fs) (i : Nat) (v : Int) (hi : i < f.ys.length) : St.Ok (s.put f.base i v) := by
  have hfm : f ∈ s.all := by unfold St.all; rw [hcur]; simp
  obtain ⟨p, hf⟩ := h.row f hfm
  have hA := h.apart f hfm
  have hmem : ∀ g ∈ (s.put f.base i v).all, ∃ g0 ∈ s.all, g = setF f.base i v g0 := by
    intro g hg
    rcases List.mem_append.1 hg with hg | hg
    · obtain ⟨g0, h0, rfl⟩ := List.mem_map.1 hg
      exact ⟨g0, List.mem_append_left _ h0, rfl⟩
    · obtain ⟨c, hc, hg⟩ := List.mem_flatMap.1 hg
      obtain ⟨c0, hc0, rfl⟩ := List.mem_map.1 hc
      obtain ⟨g0, h0, rfl⟩ := List.mem_map.1 hg
      exact ⟨g0, List.mem_append_right _ (List.mem_flatMap.2 ⟨c0, hc0, h0⟩), rfl⟩
  refine ⟨Ch.put hf i v hi h.cur (fun g hg => hA g (List.mem_append_left _ hg)), ?_, ?_, ?_, ?_⟩
  · intro a ha b hb
    obtain ⟨a0, ha0, rfl⟩ := hmem a ha
    obtain ⟨b0, hb0, rfl⟩ := hmem b hb
    unfold Apart
    rw [setF_base, setF_base, setF_len, setF_len]
    exact h.apart a0 ha0 b0 hb0
  · intro c hc
    obtain ⟨c0, hc0, rfl⟩ := List.mem_map.1 hc
    obtain ⟨a, b, e, g⟩ := h.each c0 hc0
    refine ⟨Ch.put hf i v hi a (fun k hk => hA k (List.mem_append_right _ (List.mem_flatMap.2 ⟨c0, hc0, hk⟩))), ?_, ?_, ?_⟩
    · show endF (c0.fs.map _) ≤ c0.top
      rw [endF_set]; exact b
    · show c0.top ≤ topOf (s.cs.map _)
      rw [topOf_put]; exact e
    · show c0.env = headB (c0.fs.map _)
      rw [headB_set]; exact g
  · exact List.Pairwise.map _ (fun _ _ hh => hh) h.mono
  · show topOf (s.cs.map _) ≤ (s.xs.set _ _).length
    rw [topOf_put, List.length_set]; exact h.tops
end Go.Proofs.Ythfilpacmllhpaa.stk
