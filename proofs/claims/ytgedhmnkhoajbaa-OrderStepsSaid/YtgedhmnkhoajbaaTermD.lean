
/- Terms: what Replace puts in the places of variables, and what follows: 7 texts in one. -/
import Derived.Test.YtgedhmnkhoajbaaTermB
import Derived.Deep.RegionWith
import Derived.Test.YtgedhmnkhoajbaaTermC
import Derived.Outline
import Derived.Deep.LoopGhost
/- Terms: what Replace puts in the places of variables. -/
namespace Go.Proofs.Ytgedhmnkhoajbaa.terms
section
open Go.RowKit Go.Proofs.Ytgedhmnkhoajbaa.own Go.Maps
def repSt (with_ : List T) (st : Int) (n : Int) : Int := st - ((with_.getD n.toNat default).size - 1)
def repNxt (with_ : List T) (st : Int) (n : Int) : Int := if with_.length ≤ n.toNat ∨ st < 0 then st else repSt with_ st n
def repOut (with_ : List T) (st : Int) (n : Int) : T := if with_.length ≤ n.toNat ∨ st < 0 then .mk 1 n ⟨#[]⟩ [] else if repSt with_ st n < 0 then .mk 1 n ⟨#[]⟩ [] else with_.getD n.toNat default
/-- What Replace keeps: how much is left, at lb; the terms, at wb. -/
structure RepI (with_ : List T) (wo : Option Addr) (wc lb wb : Nat) (st : Int) (S : Nat → Prop) (w : World) : Prop where
  left : w.heap[lb]? = some (.cells #[.int .i64 st] 3 (0, 0))
  box : w.heap[wb]? = some (.cells #[.slice wo with_.length wc] 22 (0, 0))
  lies : Row (· < lb) w wo with_
  own : ∀ k, S k ↔ k = lb
  lt : wb < lb
  low : -4096 ≤ st
  high : st ≤ 4096
theorem RepI.only {with_ : List T} {wo : Option Addr} {wc lb wb : Nat} {st : Int} {S S'' : Nat → Prop} {w w' : World} (h : RepI with_ wo wc lb wb st S w) (ho : Only S'' w w') (hS : ∀ k, S k → ¬ S'' k) (hB : ∀ k, S'' k → lb ≤ k) : RepI with_ wo wc lb wb st S w' := by
  have hlb := lt_of_block h.left
  have hlt := h.lt
  refine { h with left := ?_, box := ?_, lies := ?_ }
  · rw [ho.block lb hlb (hS lb ((h.own lb).2 rfl))]; exact h.left
  · rw [ho.block wb (by omega) (fun e => by have := hB wb e; omega)]; exact h.box
  · exact h.lies.only ho (fun k hk => by omega) (fun k hk e => by have := hB k e; omega)
theorem RepI.put {with_ : List T} {wo : Option Addr} {wc lb wb : Nat} {st st' : Int} {S : Nat → Prop} {w : World} (h : RepI with_ wo wc lb wb st S w) (h1 : -4096 ≤ st') (h2 : st' ≤ 4096) : RepI with_ wo wc lb wb st' S (w.setCell ⟨lb, 0, none⟩ (.int .i64 st')) ∧ Only S w (w.setCell ⟨lb, 0, none⟩ (.int .i64 st')) := by
  have o1 : Only (· = lb) w (w.setCell ⟨lb, 0, none⟩ (.int .i64 st')) := Only.setCell (S := (· = lb)) _ (p := ⟨lb, 0, none⟩) rfl _
  have hlb := lt_of_block h.left
  have hlt := h.lt
  refine ⟨⟨?_, ?_, ?_, h.own, h.lt, h1, h2⟩, o1.mono (fun k _ e => (h.own k).2 e)⟩
  · have := blk_set h.left 0 (.int .i64 st')
    simpa using this
  · rw [o1.block wb (by omega) (by omega)]; exact h.box
  · exact h.lies.only o1 (fun k hk => by omega) (fun k hk e => by omega)
theorem var_plain (n : Int) (w : World) : Calls Try.prog 62 #[.int .i64 n] w fun e w' => e = .returned (.agg #[.int .i64 1, .int .i64 n, .string ⟨#[]⟩, .slice none 0 0]) ∧ Only (fun _ => False) w w' := var_any n w
end
end Go.Proofs.Ytgedhmnkhoajbaa.terms
/- Terms: Replace. -/
namespace Go.Proofs.Ytgedhmnkhoajbaa.terms
section
open Go.RowKit Go.Proofs.Ytgedhmnkhoajbaa.own Go.Maps
def repF (with_ : List T) (t : T) : T × Int := exF (repOut with_) (repNxt with_) t (4096 - t.size)
theorem rep_world (w : World) (t : T) (ao : Option Addr) (cap : Nat) (wo : Option Addr) (m wc : Nat) :
    ((((w.alloc (.cells #[.int .i64 t.k, .int .i64 t.n, .string t.s, .slice ao t.l.length cap] 24)).alloc (.cells #[.slice wo m wc] 22)).alloc (.cells #[.int .i64 0, .int .i64 0, .string ⟨#[]⟩, .slice none 0 0] 24)).alloc (.cells #[.int .i64 t.k, .int .i64 t.n, .string t.s, .slice ao t.l.length cap] 24)).heap[w.heap.size + 1 + 1 + 1]? = some (.cells #[.int .i64 t.k, .int .i64 t.n, .string t.s, .slice ao t.l.length cap] 24 (0, 0)) ∧ Only (fun _ => False) w ((((w.alloc (.cells #[.int .i64 t.k, .int .i64 t.n, .string t.s, .slice ao t.l.length cap] 24)).alloc (.cells #[.slice wo m wc] 22)).alloc (.cells #[.int .i64 0, .int .i64 0, .string ⟨#[]⟩, .slice none 0 0] 24)).alloc (.cells #[.int .i64 t.k, .int .i64 t.n, .string t.s, .slice ao t.l.length cap] 24)) ∧ Quad w.heap.size (.int .i64 t.k) (.int .i64 t.n) (.string t.s) (.slice ao t.l.length cap) ((((w.alloc (.cells #[.int .i64 t.k, .int .i64 t.n, .string t.s, .slice ao t.l.length cap] 24)).alloc (.cells #[.slice wo m wc] 22)).alloc (.cells #[.int .i64 0, .int .i64 0, .string ⟨#[]⟩, .slice none 0 0] 24)).alloc (.cells #[.int .i64 t.k, .int .i64 t.n, .string t.s, .slice ao t.l.length cap] 24)) ∧ ((((w.alloc (.cells #[.int .i64 t.k, .int .i64 t.n, .string t.s, .slice ao t.l.length cap] 24)).alloc (.cells #[.slice wo m wc] 22)).alloc (.cells #[.int .i64 0, .int .i64 0, .string ⟨#[]⟩, .slice none 0 0] 24)).alloc (.cells #[.int .i64 t.k, .int .i64 t.n, .string t.s, .slice ao t.l.length cap] 24)).heap[w.heap.size + 1]? = some (.cells #[.slice wo m wc] 22 (0, 0)) ∧ Quad (w.heap.size + 1 + 1) (.int .i64 0) (.int .i64 0) (.string ⟨#[]⟩) (.slice none 0 0) ((((w.alloc (.cells #[.int .i64 t.k, .int .i64 t.n, .string t.s, .slice ao t.l.length cap] 24)).alloc (.cells #[.slice wo m wc] 22)).alloc (.cells #[.int .i64 0, .int .i64 0, .string ⟨#[]⟩, .slice none 0 0] 24)).alloc (.cells #[.int .i64 t.k, .int .i64 t.n, .string t.s, .slice ao t.l.length cap] 24)) ∧ ((((w.alloc (.cells #[.int .i64 t.k, .int .i64 t.n, .string t.s, .slice ao t.l.length cap] 24)).alloc (.cells #[.slice wo m wc] 22)).alloc (.cells #[.int .i64 0, .int .i64 0, .string ⟨#[]⟩, .slice none 0 0] 24)).alloc (.cells #[.int .i64 t.k, .int .i64 t.n, .string t.s, .slice ao t.l.length cap] 24)).heap.size = w.heap.size + 4 := by
  have h1 := heap_alloc_new w (.cells #[.int .i64 t.k, .int .i64 t.n, .string t.s, .slice ao t.l.length cap] 24)
  have h2 := heap_alloc_new (w.alloc (.cells #[.int .i64 t.k, .int .i64 t.n, .string t.s, .slice ao t.l.length cap] 24)) (.cells #[.slice wo m wc] 22)
  have h3 := heap_alloc_new ((w.alloc (.cells #[.int .i64 t.k, .int .i64 t.n, .string t.s, .slice ao t.l.length cap] 24)).alloc (.cells #[.slice wo m wc] 22)) (.cells #[.int .i64 0, .int .i64 0, .string ⟨#[]⟩, .slice none 0 0] 24)
  have h4 := heap_alloc_new (((w.alloc (.cells #[.int .i64 t.k, .int .i64 t.n, .string t.s, .slice ao t.l.length cap] 24)).alloc (.cells #[.slice wo m wc] 22)).alloc (.cells #[.int .i64 0, .int .i64 0, .string ⟨#[]⟩, .slice none 0 0] 24)) (.cells #[.int .i64 t.k, .int .i64 t.n, .string t.s, .slice ao t.l.length cap] 24)
  have o2 : Only (fun _ => False) (w.alloc (.cells #[.int .i64 t.k, .int .i64 t.n, .string t.s, .slice ao t.l.length cap] 24)) ((w.alloc (.cells #[.int .i64 t.k, .int .i64 t.n, .string t.s, .slice ao t.l.length cap] 24)).alloc (.cells #[.slice wo m wc] 22)) := Only.alloc _ _ _
  have o3 : Only (fun _ => False) ((w.alloc (.cells #[.int .i64 t.k, .int .i64 t.n, .string t.s, .slice ao t.l.length cap] 24)).alloc (.cells #[.slice wo m wc] 22)) (((w.alloc (.cells #[.int .i64 t.k, .int .i64 t.n, .string t.s, .slice ao t.l.length cap] 24)).alloc (.cells #[.slice wo m wc] 22)).alloc (.cells #[.int .i64 0, .int .i64 0, .string ⟨#[]⟩, .slice none 0 0] 24)) := Only.alloc _ _ _
  have o4 : Only (fun _ => False) (((w.alloc (.cells #[.int .i64 t.k, .int .i64 t.n, .string t.s, .slice ao t.l.length cap] 24)).alloc (.cells #[.slice wo m wc] 22)).alloc (.cells #[.int .i64 0, .int .i64 0, .string ⟨#[]⟩, .slice none 0 0] 24)) ((((w.alloc (.cells #[.int .i64 t.k, .int .i64 t.n, .string t.s, .slice ao t.l.length cap] 24)).alloc (.cells #[.slice wo m wc] 22)).alloc (.cells #[.int .i64 0, .int .i64 0, .string ⟨#[]⟩, .slice none 0 0] 24)).alloc (.cells #[.int .i64 t.k, .int .i64 t.n, .string t.s, .slice ao t.l.length cap] 24)) := Only.alloc _ _ _
  refine ⟨by simpa using h4, (((Only.alloc _ _ _).same o2).same o3).same o4, blk_later (blk_later (blk_later h1 o2) o3) o4, ?_, ?_, by simp⟩
  · have := blk_later (blk_later h2 o3) o4
    simpa using this
  · have := blk_later h3 o4
    unfold Quad
    simpa using this
end
end Go.Proofs.Ytgedhmnkhoajbaa.terms
/- Terms: lists of lists under way; do they fit? -/
namespace Go.Proofs.Ytgedhmnkhoajbaa.terms
section
open Go.RowKit Go.Proofs.Ytgedhmnkhoajbaa.own Go.Maps
/-- A list of terms, and where it lies. -/
structure Ls where
  l : List T
  ao : Option Addr
  cap : Nat
def encL (x : Ls) : List Value := [.slice x.ao x.l.length x.cap]
theorem liesL : Go.Proofs.Ytgedhmnkhoajbaa.own.Lies encL 1 := ⟨fun _ => rfl, by
  intro x u hu
  simp [encL] at hu
  subst hu
  rfl, by omega⟩
theorem infoL : (Try.prog.info? 22).map (fun i => (i.zero, i.size, i.bytes)) = some (some (.slice none 0 0), 1, 24) := by kernel_rfl
abbrev LsP (B : Nat) (ao : Option Addr) (cap : Nat) (xs : List Ls) (w : World) : Prop := RowOf encL 1 22 B ao cap xs w
theorem LsP.one {B g : Nat} {x : Ls} {w : World} (hB : B ≤ g) (h : w.heap[g]? = some (.cells #[.slice x.ao x.l.length x.cap] 22 (0, 0))) : LsP B (some ⟨g, 0, none⟩) 1 [x] w :=
  ⟨rfl, .inr ⟨g, 1, _, rfl, hB, h, Nat.le_refl _, by unfold maxLen; omega, rfl, rfl⟩⟩
/-- How many parts stand below a list's own. -/
def bl (l : List T) : Nat := (l.map (fun t => sizes t.l)).sum
theorem sizes_bl (l : List T) : sizes l = l.length + bl l := by
  induction l with
  | nil => simp [sizes, bl]
  | cons x r ih =>
    have hx : x.size = 1 + sizes x.l := x.size_eq
    simp only [sizes, bl, List.map_cons, List.sum_cons, List.length_cons] at ih ⊢
    omega
theorem bl_append (a b : List T) : bl (a ++ b) = bl a + bl b := by simp [bl]
theorem bl_step {l : List T} {i : Nat} {x : T} (h : l[i]? = some x) : bl (l.take (i + 1)) = bl (l.take i) + sizes x.l := by
  rw [take_snoc h, bl_append]
  simp [bl]
def wt (xs : List Ls) : Nat := (xs.map (fun x => 1 + sizes x.l)).sum
def bls (xs : List Ls) : Nat := (xs.map (fun x => bl x.l)).sum
theorem wt_append (a b : List Ls) : wt (a ++ b) = wt a + wt b := by simp [wt]
theorem bls_append (a b : List Ls) : bls (a ++ b) = bls a + bls b := by simp [bls]
theorem wt_one (x : Ls) : wt [x] = 1 + sizes x.l := by simp [wt]
theorem bls_one (x : Ls) : bls [x] = bl x.l := by simp [bls]
theorem wt_len (xs : List Ls) : xs.length ≤ wt xs := by
  induction xs with
  | nil => simp
  | cons x r ih =>
    have : wt (x :: r) = (1 + sizes x.l) + wt r := by simp [wt]
    rw [this, List.length_cons]
    omega
/-- Lists under way: the row of them, each lying where the first world has it. -/
structure Ways (w : World) (B : Nat) (so : Option Addr) (sc : Nat) (xs : List Ls) (wr : World) : Prop where
  row : LsP B so sc xs wr
  own : Only (fun _ => False) w wr
  lies : ∀ x ∈ xs, Lies w x.ao x.l ∧ x.l.length ≤ maxLen
theorem Ways.later {w : World} {B : Nat} {so : Option Addr} {sc : Nat} {xs : List Ls} {wr w' : World} (h : Ways w B so sc xs wr) (ho : Only (fun _ => False) wr w') : Ways w B so sc xs w' :=
  ⟨h.row.only ho (fun _ _ e => e), h.own.same ho, h.lies⟩
theorem Ways.pop {w : World} {B : Nat} {so : Option Addr} {sc m : Nat} {xs : List Ls} {wr : World} (h : Ways w B so sc xs wr) (hm : xs.length = m + 1) : ∃ ys x, xs = ys ++ [x] ∧ ys.length = m ∧ xs[m]? = some x ∧ Ways w B so sc ys wr ∧ Lies w x.ao x.l ∧ x.l.length ≤ maxLen := by
  obtain ⟨x, hx⟩ : ∃ x, xs[m]? = some x := ⟨_, List.getElem?_eq_getElem (by omega)⟩
  have e : xs = xs.take m ++ [x] := by
    have := take_snoc hx
    rw [← this, ← hm, List.take_length]
  have hr := h.row.take liesL m (by omega)
  refine ⟨xs.take m, x, e, by rw [List.length_take]; omega, hx, ⟨hr, h.own, fun y hy => h.lies y (List.mem_of_mem_take hy)⟩, (h.lies x (List.mem_of_getElem? hx))⟩
theorem sizes_take_le (l : List T) (j : Nat) : sizes (l.take j) ≤ sizes l := by
  have e : sizes l = sizes (l.take j) + sizes (l.drop j) := by rw [← sizes_append, List.take_append_drop]
  omega
end
end Go.Proofs.Ytgedhmnkhoajbaa.terms
/- Terms: a list of the same terms in memory of its own. -/
namespace Go.Proofs.Ytgedhmnkhoajbaa.terms
section
open Go.RowKit Go.Proofs.Ytgedhmnkhoajbaa.own Go.Maps
/-- Items lie at ao, wherever that is. -/
def Src (w : World) (ao : Option Addr) (its : List It) : Prop := ∀ (i : Nat) (x : It), its[i]? = some x → ∃ b off, ao = some ⟨b, off, none⟩ ∧ b < w.heap.size ∧ ∀ r, r < 4 → w.cell? ⟨b, off + i * 4 + r, none⟩ = (encIt x)[r]?
theorem Row.src {P : Nat → Prop} {w : World} {ao : Option Addr} {l : List T} (h : Row P w ao l) (hP : ∀ k, P k → k < w.heap.size) : ∃ its : List It, its.map (·.t) = l ∧ Src w ao its ∧ ∀ (i : Nat) (x : It), its[i]? = some x → x.t.Sane ∧ Row P w x.ao x.t.l := by
  cases h with
  | mk ao l ro rc cells subs =>
    refine ⟨l.mapIdx (fun i t => ⟨t, ro i, rc i⟩), ?_, fun i x hx => ?_, fun i x hx => ?_⟩
    · apply List.ext_getElem?
      intro i
      rw [List.getElem?_map, List.getElem?_mapIdx]
      cases l[i]? <;> rfl
    · rw [List.getElem?_mapIdx] at hx
      obtain ⟨t, ht, rfl⟩ := Option.map_eq_some_iff.1 hx
      obtain ⟨b, off, h1, h2, h3, h4, h5, h6, h7⟩ := cells i t ht
      refine ⟨b, off, h1, hP b h2, fun r hr => ?_⟩
      match r, hr with
      | 0, _ => simpa [encIt] using h3
      | 1, _ => simpa [encIt] using h4
      | 2, _ => simpa [encIt] using h5
      | 3, _ => simpa [encIt] using h6
    · rw [List.getElem?_mapIdx] at hx
      obtain ⟨t, ht, rfl⟩ := Option.map_eq_some_iff.1 hx
      obtain ⟨b, off, h1, h2, h3, h4, h5, h6, h7⟩ := cells i t ht
      exact ⟨h7.1, subs i t ht⟩
theorem Src.cells {w : World} {its : List It} {b off : Nat} (h : Src w (some ⟨b, off, none⟩) its) : ∀ j u, (its.flatMap encIt)[j]? = some u → w.cell? ((⟨b, off, none⟩ : Addr).add j) = some u := by
  intro j u hj
  have hlt : j < its.length * 4 := by
    have := (List.getElem?_eq_some_iff.1 hj).1
    rw [flat_len liesIt] at this
    exact this
  obtain ⟨x, hx⟩ : ∃ x, its[j / 4]? = some x := ⟨_, List.getElem?_eq_getElem (by omega)⟩
  have hf := flat_get liesIt its (j / 4) (j % 4) x hx (by omega)
  rw [show j / 4 * 4 + j % 4 = j by omega, hj] at hf
  obtain ⟨b', off', he, _, hc⟩ := h (j / 4) x hx
  cases he
  have := hc (j % 4) (by omega)
  rw [← hf, show off + j / 4 * 4 + j % 4 = off + j by omega] at this
  have e : (⟨b, off, none⟩ : Addr).add j = ⟨b, off + j, none⟩ := by unfold Addr.add; split <;> simp_all
  rw [e]
  exact this
end
end Go.Proofs.Ytgedhmnkhoajbaa.terms
/- Terms: a list of terms being copied. -/
namespace Go.Proofs.Ytgedhmnkhoajbaa.terms
section
open Go.RowKit Go.Proofs.Ytgedhmnkhoajbaa.own Go.Maps
/-- A row that was laid anew, whose items still have the old arguments. -/
structure Pd where
  g : Nat
  its : List It
  cap : Nat
def Pd.ls (p : Pd) : Ls := ⟨p.its.map (·.t), some ⟨p.g, 0, none⟩, p.cap⟩
structure PdOk (w wr : World) (p : Pd) : Prop where
  row : ItsP w.heap.size (some ⟨p.g, 0, none⟩) p.cap p.its wr
  lies : ∀ (i : Nat) (x : It), p.its[i]? = some x → x.t.Sane ∧ Lies w x.ao x.t.l
def Pend (ps : List Pd) (so : Option Addr) (k : Nat) : Prop := (∃ p ∈ ps, p.g = k) ∨ RowAt so k
abbrev Since (w w' : World) (k : Nat) : Prop := w.heap.size ≤ k ∧ k < w'.heap.size
/-- The copying under way: once each row of ps is whole, the list is. -/
structure Cop (w : World) (top : Option Addr) (l : List T) (ps : List Pd) (so : Option Addr) (sc : Nat) (wr : World) : Prop where
  row : LsP w.heap.size so sc (ps.map Pd.ls) wr
  own : Only (fun _ => False) w wr
  ok : ∀ p ∈ ps, PdOk w wr p
  nd : (ps.map (·.g)).Nodup
  wand : ∀ w', Only (Pend ps so) wr w' → (∀ p ∈ ps, Row (Since w w') w' (some ⟨p.g, 0, none⟩) (p.its.map (·.t))) → Row (Since w w') w' top l
/-- The first j items of a row were given new arguments. -/
structure CopI (w wr : World) (p : Pd) (qs cs : List Pd) (so so2 : Option Addr) (sc2 : Nat) (its : List It) (j : Nat) (wr2 : World) : Prop where
  row : LsP w.heap.size so2 sc2 ((qs ++ cs).map Pd.ls) wr2
  own : Only (fun k => k = p.g ∨ RowAt so k) wr wr2
  ok : ∀ q ∈ qs ++ cs, PdOk w wr2 q
  nd : ((qs ++ cs).map (·.g)).Nodup
  away : ∀ q ∈ qs ++ cs, q.g ≠ p.g
  mine : ItsP w.heap.size (some ⟨p.g, 0, none⟩) p.cap its wr2
  len : its.length = p.its.length
  rest : ∀ i, j ≤ i → its[i]? = p.its[i]?
  done : ∀ (i : Nat) (x : It), i < j → p.its[i]? = some x → ∃ y, its[i]? = some y ∧ y.t = x.t ∧ (x.t.l = [] ∨ ∃ c ∈ cs, y.ao = some ⟨c.g, 0, none⟩ ∧ c.its.map (·.t) = x.t.l)
  new : ∀ c ∈ cs, wr.heap.size ≤ c.g
  nrow : NewRow wr.heap.size so so2
theorem its_block {B g cap : Nat} {xs : List It} {w : World} (h : ItsP B (some ⟨g, 0, none⟩) cap xs w) : ∃ cur, w.heap[g]? = some (.cells cur 24 (0, 0)) := by
  rcases h.2 with ⟨h1, _⟩ | ⟨g', cap', cur, hv, _, hg, _⟩
  · simp at h1
  · simp only [Value.slice.injEq, Option.some.injEq, Addr.mk.injEq] at hv
    obtain ⟨⟨rfl, _⟩, _⟩ := hv
    exact ⟨cur, hg⟩
theorem ls_block {B cap : Nat} {g : Addr} {xs : List Ls} {w : World} (h : LsP B (some g) cap xs w) : ∃ cur, w.heap[g.block]? = some (.cells cur 22 (0, 0)) := by
  rcases h.2 with ⟨h1, _⟩ | ⟨g', cap', cur, hv, _, hg, _⟩
  · simp at h1
  · simp only [Value.slice.injEq, Option.some.injEq] at hv
    obtain ⟨rfl, _⟩ := hv
    exact ⟨cur, hg⟩
theorem its_ls {B B' g cap sc : Nat} {so : Option Addr} {xs : List It} {ys : List Ls} {w : World} (h : ItsP B (some ⟨g, 0, none⟩) cap xs w) (h' : LsP B' so sc ys w) : ¬ RowAt so g := by
  rintro ⟨a, rfl, rfl⟩
  obtain ⟨c1, e1⟩ := its_block h
  obtain ⟨c2, e2⟩ := ls_block h'
  rw [e1] at e2
  simp only [Option.some.injEq, Obj.cells.injEq] at e2
  exact absurd e2.2.1 (by decide)
theorem PdOk.only {w wr w' : World} {p : Pd} {S : Nat → Prop} (h : PdOk w wr p) (ho : Only S wr w') (hS : ¬ S p.g) : PdOk w w' p :=
  ⟨h.row.only ho (fun g hg e => by cases hg; exact hS e), h.lies⟩
/-- At the beginning of a row. -/
theorem Cop.start {w wr : World} {top : Option Addr} {l : List T} {qs : List Pd} {p : Pd} {so : Option Addr} {sc : Nat} (h : Cop w top l (qs ++ [p]) so sc wr) : CopI w wr p qs [] so so sc p.its 0 wr := by
  have hnd := h.nd
  rw [List.map_append, List.nodup_append] at hnd
  have hr := h.row.take liesL qs.length (by simp)
  have e : ((qs ++ [p]).map Pd.ls).take qs.length = (qs ++ []).map Pd.ls := by simp
  rw [e] at hr
  refine ⟨hr, Only.refl _ _, fun q hq => h.ok q (by simp at hq; simp [hq]), by simpa using hnd.1, fun q hq he => ?_, (h.ok p (by simp)).row, rfl, fun _ _ => rfl, fun i x hi => by omega, fun c hc => (by cases hc), NewRow.refl _ _⟩
  simp only [List.append_nil] at hq
  exact hnd.2.2 q.g (List.mem_map.2 ⟨q, hq, rfl⟩) p.g (by simp) he
/-- At its end. -/
theorem CopI.finish {w wr wr2 : World} {top : Option Addr} {l : List T} {qs cs : List Pd} {p : Pd} {so so2 : Option Addr} {sc sc2 : Nat} {its : List It} (h : Cop w top l (qs ++ [p]) so sc wr) (hi : CopI w wr p qs cs so so2 sc2 its p.its.length wr2) : Cop w top l (qs ++ cs) so2 sc2 wr2 := by
  have hp := h.ok p (by simp)
  have hpB := (hp.row.head _ rfl).2
  have hso : ∀ k, RowAt so k → w.heap.size ≤ k := by
    rintro k ⟨a, ha, rfl⟩
    exact (h.row.head a ha).2.1
  refine ⟨hi.row, Only.cut h.own hi.own (fun k e => by rcases e with rfl | e; exact hpB.1; exact hso k e), hi.ok, hi.nd, fun w' ho hrows => ?_⟩
  refine h.wand w' (hi.own.mono (S' := Pend (qs ++ [p]) so) (fun k _ e => ?_) |>.trans ho (fun k hk e => ?_)) (fun q hq => ?_)
  · rcases e with rfl | e
    · exact .inl ⟨p, by simp, rfl⟩
    · exact .inr e
  · rcases e with ⟨q, hq, rfl⟩ | ⟨a, ha, rfl⟩
    · rcases List.mem_append.1 hq with hq | hq
      · exact .inl ⟨q, by simp [hq], rfl⟩
      · have := hi.new q hq; omega
    · rcases hi.nrow a ha with e | e
      · exact .inr ⟨a, e, rfl⟩
      · omega
  · rcases List.mem_append.1 hq with hq | hq
    · exact hrows q (by simp [hq])
    · rw [List.mem_singleton.1 hq]
      have hne : ¬ Pend (qs ++ cs) so2 p.g := by
        rintro (⟨q, hq, e⟩ | e)
        · exact hi.away q hq e
        · exact its_ls hi.mine hi.row e
      have hm := hi.mine.only ho (fun g hg e => by cases hg; exact hne e)
      have ht : its.map (·.t) = p.its.map (·.t) := by
        apply List.ext_getElem?
        intro i
        rw [List.getElem?_map, List.getElem?_map]
        by_cases hlt : i < p.its.length
        · obtain ⟨x, hx⟩ : ∃ x, p.its[i]? = some x := ⟨_, List.getElem?_eq_getElem hlt⟩
          obtain ⟨y, hy, e, _⟩ := hi.done i x hlt hx
          rw [hx, hy]
          simp [e]
        · rw [List.getElem?_eq_none (by rw [hi.len]; omega), List.getElem?_eq_none (by omega)]
      rw [← ht]
      refine ItsP.row (P := Since w w') hm ⟨hpB.1, Nat.lt_of_lt_of_le hpB.2 (Nat.le_trans hi.own.size ho.size)⟩ (fun i y hy => ?_)
      have hlt : i < p.its.length := by have := (List.getElem?_eq_some_iff.1 hy).1; rw [hi.len] at this; exact this
      obtain ⟨x, hx⟩ : ∃ x, p.its[i]? = some x := ⟨_, List.getElem?_eq_getElem hlt⟩
      obtain ⟨y', hy', e, hc⟩ := hi.done i x hlt hx
      rw [hy] at hy'
      cases hy'
      have hs := (hp.lies i x hx).1
      rw [e]
      refine ⟨hs, ?_⟩
      rcases hc with hc | ⟨c, hc, ha, hm2⟩
      · rw [hc]; exact Row.nil _ _ _
      · rw [ha, ← hm2]
        exact hrows c (by simp [hc])
/-- An item's arguments were laid anew, and are put into its row. -/
structure CopS (w wr : World) (p : Pd) (qs cs : List Pd) (so so2 : Option Addr) (sc2 : Nat) (its : List It) (j : Nat) (x : It) (fo : Option Addr) (fc : Nat) (sub : List It) (wr2 : World) : Prop where
  row : LsP w.heap.size so2 sc2 ((qs ++ cs).map Pd.ls) wr2
  own : Only (fun k => k = p.g ∨ RowAt so k) wr wr2
  ok : ∀ q ∈ qs ++ cs, PdOk w wr2 q
  mine : ItsP w.heap.size (some ⟨p.g, 0, none⟩) p.cap (its.set j ⟨x.t, fo, fc⟩) wr2
  child : ItsP wr.heap.size fo fc sub wr2
  apart : ∀ g, fo = some ⟨g, 0, none⟩ → g ≠ p.g ∧ ∀ q ∈ qs ++ cs, q.g ≠ g
theorem CopI.store {w wr wr2 w3 : World} {qs cs : List Pd} {p : Pd} {so so2 : Option Addr} {sc2 j : Nat} {its : List It} (h : CopI w wr p qs cs so so2 sc2 its j wr2) {x : It} (hx : its[j]? = some x) {sub : List It} (hm : sub.map (·.t) = x.t.l) {fo : Option Addr} {fc : Nat} (hc : ItsP wr2.heap.size fo fc sub w3) (ho : Only (fun _ => False) wr2 w3) :
    CopS w wr p qs cs so so2 sc2 its j x fo fc sub (w3.setCell ⟨p.g, j * 4 + 3, none⟩ (.slice fo x.t.l.length fc)) := by
  have hmine := h.mine.only ho (fun _ _ e => e)
  have hpB : w.heap.size ≤ p.g ∧ p.g < wr2.heap.size := (h.mine.head _ rfl).2
  obtain ⟨r1, o1⟩ := hmine.stored liesIt j 3 x ⟨x.t, fo, fc⟩ (.slice fo x.t.l.length fc) hx (by omega) rfl
  have hsz := h.own.size
  have hfo : ∀ g, fo = some g → wr2.heap.size ≤ g.block := fun g hg => (hc.head g hg).2.1
  refine ⟨(h.row.only ho (fun _ _ e => e)).only o1 (fun g hg e => its_ls h.mine h.row ⟨g, hg, e.symm⟩), (h.own.same (ho.no _)).same (o1.mono (fun k _ e => .inl e)), fun q hq => ((h.ok q hq).only ho (fun e => e)).only o1 (h.away q hq), r1, ?_, fun g hg => ⟨?_, fun q hq e => ?_⟩⟩
  · have h1 := hc.only o1 (fun g hg e => by have := hfo g hg; omega)
    obtain ⟨e1, e2⟩ := h1
    refine ⟨e1, ?_⟩
    rcases e2 with e2 | ⟨g, c', cur, a1, a2, a3⟩
    · exact .inl e2
    · exact .inr ⟨g, c', cur, a1, by omega, a3⟩
  · have := hfo _ hg
    simp only at this
    omega
  · have h1 := hfo _ hg
    have h2 := ((h.ok q hq).row.head _ rfl).2.2
    simp only at h1 h2
    omega
theorem CopI.after {w wr wr2 w4 : World} {qs cs : List Pd} {p : Pd} {so so2 : Option Addr} {sc2 j : Nat} {its : List It} (h : CopI w wr p qs cs so so2 sc2 its j wr2) {x : It} (hx : its[j]? = some x) {sub : List It} {fo : Option Addr} {fc : Nat} (hs : CopS w wr p qs cs so so2 sc2 its j x fo fc sub w4) (hnil : x.t.l = []) :
    CopI w wr p qs cs so so2 sc2 (its.set j ⟨x.t, fo, fc⟩) (j + 1) w4 := by
  have hjl := (List.getElem?_eq_some_iff.1 hx).1
  refine ⟨hs.row, hs.own, hs.ok, h.nd, h.away, hs.mine, by rw [List.length_set]; exact h.len, fun i hi => ?_, fun i z hi hz => ?_, h.new, h.nrow⟩
  · rw [List.getElem?_set_ne (by omega)]
    exact h.rest i (by omega)
  · by_cases e : i = j
    · subst e
      have := h.rest i (Nat.le_refl _)
      rw [hx, hz] at this
      cases this
      exact ⟨⟨x.t, fo, fc⟩, by rw [List.getElem?_set_self hjl], rfl, .inl hnil⟩
    · rw [List.getElem?_set_ne (by omega)]
      exact h.done i z (by omega) hz
theorem CopI.push {w wr wr2 w4 w5 : World} {qs cs : List Pd} {p : Pd} {so so2 so3 : Option Addr} {sc2 sc3 j : Nat} {its : List It} (h : CopI w wr p qs cs so so2 sc2 its j wr2) {x : It} (hx : its[j]? = some x) {sub : List It} (hm : sub.map (·.t) = x.t.l) (hlies : ∀ (i : Nat) (y : It), sub[i]? = some y → y.t.Sane ∧ Lies w y.ao y.t.l) {gc fc : Nat}
    (hs : CopS w wr p qs cs so so2 sc2 its j x (some ⟨gc, 0, none⟩) fc sub w4) (hwr : w.heap.size ≤ wr.heap.size) (hr : LsP w.heap.size so3 sc3 ((qs ++ cs).map Pd.ls ++ [Pd.ls ⟨gc, sub, fc⟩]) w5) (ho : Only (RowAt so2) w4 w5) (hn : NewRow w4.heap.size so2 so3) :
    CopI w wr p qs (cs ++ [⟨gc, sub, fc⟩]) so so3 sc3 (its.set j ⟨x.t, some ⟨gc, 0, none⟩, fc⟩) (j + 1) w5 := by
  have hjl := (List.getElem?_eq_some_iff.1 hx).1
  have hap := hs.apart gc rfl
  have hgc := (hs.child.head _ rfl).2
  have hchild : ItsP w.heap.size (some ⟨gc, 0, none⟩) fc sub w4 := by
    obtain ⟨e1, e2⟩ := hs.child
    refine ⟨e1, ?_⟩
    rcases e2 with e2 | ⟨g, c', cur, a1, a2, a3⟩
    · exact .inl e2
    · exact .inr ⟨g, c', cur, a1, by omega, a3⟩
  have hqs : qs ++ (cs ++ [⟨gc, sub, fc⟩]) = (qs ++ cs) ++ [⟨gc, sub, fc⟩] := by rw [List.append_assoc]
  have hsz := hs.own.size
  refine ⟨?_, ?_, fun q hq => ?_, ?_, fun q hq => ?_, hs.mine.only ho (fun g hg e => by cases hg; exact its_ls hs.mine hs.row e), by rw [List.length_set]; exact h.len, fun i hi => ?_, fun i z hi hz => ?_, fun c hc => ?_, ?_⟩
  · rw [hqs, List.map_append]
    exact hr
  · refine hs.own.trans ho (fun k hk e => ?_)
    obtain ⟨a, ha, rfl⟩ := e
    rcases h.nrow a ha with e | e
    · exact .inr ⟨a, e, rfl⟩
    · omega
  · rw [hqs] at hq
    rcases List.mem_append.1 hq with hq | hq
    · exact (hs.ok q hq).only ho (fun e => its_ls (hs.ok q hq).row hs.row e)
    · rw [List.mem_singleton.1 hq]
      exact ⟨hchild.only ho (fun g hg e => by cases hg; exact its_ls hchild hs.row e), hlies⟩
  · rw [hqs, List.map_append, List.nodup_append]
    refine ⟨h.nd, by simp, fun a ha b hb e => ?_⟩
    simp only [List.map_cons, List.map_nil, List.mem_singleton] at hb
    obtain ⟨q, hq, rfl⟩ := List.mem_map.1 ha
    exact hap.2 q hq (e.trans hb)
  · rw [hqs] at hq
    rcases List.mem_append.1 hq with hq | hq
    · exact h.away q hq
    · rw [List.mem_singleton.1 hq]
      exact hap.1
  · rw [List.getElem?_set_ne (by omega)]
    exact h.rest i (by omega)
  · by_cases e : i = j
    · subst e
      have := h.rest i (Nat.le_refl _)
      rw [hx, hz] at this
      cases this
      exact ⟨⟨x.t, some ⟨gc, 0, none⟩, fc⟩, by rw [List.getElem?_set_self hjl], rfl, .inr ⟨⟨gc, sub, fc⟩, by simp, rfl, hm⟩⟩
    · rw [List.getElem?_set_ne (by omega)]
      obtain ⟨y, h1, h2, h3⟩ := h.done i z (by omega) hz
      refine ⟨y, h1, h2, ?_⟩
      rcases h3 with h3 | ⟨c, hc, h3⟩
      · exact .inl h3
      · exact .inr ⟨c, by simp [hc], h3⟩
  · rcases List.mem_append.1 hc with hc | hc
    · exact h.new c hc
    · rw [List.mem_singleton.1 hc]
      exact hgc.1
  · exact h.nrow.trans hn hsz
end
end Go.Proofs.Ytgedhmnkhoajbaa.terms
/- Terms: copied. -/
namespace Go.Proofs.Ytgedhmnkhoajbaa.terms
section
open Go.RowKit Go.Proofs.Ytgedhmnkhoajbaa.own Go.Maps
theorem Src.later {w w' : World} {ao : Option Addr} {its : List It} (h : Src w ao its) (ho : Only (fun _ => False) w w') : Src w' ao its := fun i x hx => by
  obtain ⟨b, off, h1, h2, h3⟩ := h i x hx
  exact ⟨b, off, h1, Nat.lt_of_lt_of_le h2 ho.size, fun r hr => (ho.cell (p := ⟨b, off + i * 4 + r, none⟩) h2 (fun e => e)).trans (h3 r hr)⟩
theorem list_pop {α : Type} {ps : List α} {m : Nat} (hm : ps.length = m + 1) : ∃ qs p, ps = qs ++ [p] ∧ qs.length = m := by
  obtain ⟨x, hx⟩ : ∃ x, ps[m]? = some x := ⟨_, List.getElem?_eq_getElem (by omega)⟩
  refine ⟨ps.take m, x, ?_, by rw [List.length_take]; omega⟩
  have := take_snoc hx
  rw [← this, ← hm, List.take_length]
end
end Go.Proofs.Ytgedhmnkhoajbaa.terms
/- Terms: Comp. -/
namespace Go.Proofs.Ytgedhmnkhoajbaa.terms
section
open Go.RowKit Go.Proofs.Ytgedhmnkhoajbaa.own Go.Maps
def compF (s : ByteArray) (l : List T) : T := if l.length = 0 then .mk 3 0 s [] else .mk 4 0 s l
end
end Go.Proofs.Ytgedhmnkhoajbaa.terms
