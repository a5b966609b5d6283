/- Clauses by generations: a base of one predicate, made since a world; what lies apart from it. -/
import Derived.Test.YthfilpacmllhpabBas17
namespace Go.Proofs.Ythfilpacmllhpab.bases
set_option maxRecDepth 100000
open Go.RowKit Go.Proofs.Ythfilpacmllhpab.own Go.Lib Go.Maps Go.WideMaps Go.Proofs.Ythfilpacmllhpab.idx Go.Proofs.Ythfilpacmllhpab.terms
/-- A base that was made since w0, apart from Q. -/
def Bs (b pm N : Nat) (sl : List Sl) (ps : List Pc) (lim gen low : Int) (Q : Nat → Prop) (w0 w : World) : Prop :=
  ∃ so sc np Dp, BI b pm N sl ps lim gen low so sc np Dp w ∧ (∀ k, BaseS b pm so ps k → w0.heap.size ≤ k ∧ ¬ Q k) ∧ (∀ k, Q k → k < w.heap.size) ∧ Only (fun _ => False) w0 w
/-- What a slot holds, in blocks from B on and ahead of M. -/
structure Holds (s : Sl) (t : T) (is : List In) (B M : Nat) (w : World) : Prop where
  hk : s.hk = t.k ∧ s.hn = t.n ∧ s.hs = t.s ∧ s.hl = t.l.length
  hg : s.ga = none ∧ s.gl = 0 ∧ s.gc = 0
  vs : s.vs = 0
  cl : s.cl = is.length
  r : Row (fun k => B ≤ k ∧ k < M) w s.ha t.l
  c : RowI B s.ca s.cc is w
  cm : ∀ g, s.ca = some g → g.block < M
  m : M ≤ w.heap.size
section
variable {b pm N : Nat} {sl : List Sl} {ps A C : List Pc} {p p' : Pc} {lim gen low us : Int} {so : Option Addr} {sc np : Nat} {Dp : D3} {w0 w w' W W' : World} {Q : Nat → Prop}
theorem Holds.only {S : Nat → Prop} {s : Sl} {t : T} {is : List In} {B M : Nat} (h : Holds s t is B M w) (o : Only S w w') (hS : ∀ k, B ≤ k → k < M → ¬ S k) : Holds s t is B M w' :=
  { h with r := h.r.only o (fun k hk => Nat.lt_of_lt_of_le hk.2 h.m) (fun k hk => hS k hk.1 hk.2), c := h.c.only o (fun g hg => hS _ (h.c.head g hg).2.1 (h.cm g hg)), m := Nat.le_trans h.m o.size }
theorem BI.under (h : BI b pm N sl ps lim gen low so sc np Dp w) : ∀ k, BaseS b pm so ps k → k < w.heap.size := by
  rintro k (rfl | ⟨g, hg, rfl⟩ | rfl | ⟨q, hq, hk⟩)
  · exact lt_of_block h.box
  · exact (h.row.head g hg).2.2
  · obtain ⟨es, cl, hb, _⟩ := h.pmap
    exact lt_of_block hb
  · rcases hk with rfl | hk
    · exact lt_of_block (h.pds q hq).box
    · exact ((h.pds q hq).tab.kind k hk).lt
theorem Bs.later (h : Bs b pm N sl ps lim gen low Q w0 w) (o : Only (fun _ => False) w w') : Bs b pm N sl ps lim gen low Q w0 w' := by
  obtain ⟨so, sc, np, Dp, h1, h2, h3, h4⟩ := h
  exact ⟨so, sc, np, Dp, h1.later o, h2, fun k hk => Nat.lt_of_lt_of_le (h3 k hk) o.size, h4.same o⟩
/-- The entries of a base of at most one predicate. -/
def entF (ps : List Pc) : List En := match ps with
  | [] => []
  | p :: _ => p.st.L
theorem add_bs (h : Bs b pm N sl ps lim gen low Q w0 W) (o : Only (fun _ => False) W w) (hps : ps = [] ∨ ∃ p, ps = [p] ∧ p.nm = nmP) (hf : (entF ps).length < 4096) (k n : Int) (hn : Fits n) (ao : Option Addr) (cap : Nat) (hl : Row (fun q => W.heap.size ≤ q ∧ q < w.heap.size) w ao [.mk k n ⟨#[]⟩ []])
    (co : Option Addr) (cc : Nat) (is : List In) (hc : co = none → cc = 0) (hs : SrcOf encI w co is) (hb : ∀ ad, co = some ad → ad.block < w.heap.size ∧ W.heap.size ≤ ad.block) (hil : is.length ≤ 100000)
    (hlim : sl.length < lim) (f : Bool) (hN : N + 2 ≤ 100000) (hsl : sl.length + 1 ≤ 10000) :
    Calls Try.prog 9 #[.pointer (some ⟨b, 0, none⟩), .agg #[.int .i64 4, .int .i64 0, .string ⟨#[112]⟩, .slice ao 1 cap, .slice none 0 0, .int .i64 0], .slice co is.length cc, .bool f] w fun e w' => e = .returned (.tuple #[.int .i64 sl.length, .int .i64 0]) ∧ ∃ (s : Sl) (x : En) (p' : Pc) (B M : Nat), (s.nm = nmP ∧ s.ad = gen + 1 ∧ s.ki = 0) ∧ x.id = sl.length ∧ (p'.nm = nmP ∧ p'.st.L = insF f x (entF ps)) ∧ Holds s (tP k n) is B M w' ∧ Bs b pm (N + 1 + 1) (sl ++ [s]) [p'] lim (gen + 1) sl.length (fun q => Q q ∨ (B ≤ q ∧ q < M)) w0 w' ∧ Only (fun q => w0.heap.size ≤ q ∧ ¬ Q q) w w' := by
  obtain ⟨so, sc, np, Dp, h1, h2, h3, h4⟩ := h
  have hlow := h1.under
  have hout : ∀ q, W.heap.size ≤ q → ¬ BaseS b pm so ps q := fun q hq e => by have := hlow q e; omega
  have hw := o.size
  refine (add_p (h1.later o) k n hn ao cap (fun q => W.heap.size ≤ q ∧ q < w.heap.size) hl (fun q hq => ⟨hq.2, fun e => hout q hq.1 (.inl e), fun e => hout q hq.1 (.inr (.inr (.inl e))), fun e => hout q hq.1 (.inr (.inl e))⟩) co cc is hc hs (fun ad e => ⟨(hb ad e).1, fun e' => hout _ (hb ad e).2 (.inl e'), fun e' => hout _ (hb ad e).2 (.inr (.inr (.inl e')))⟩) hil hlim (fun p hp _ => ?_) f hN hsl).mono ?_
  · rcases hps with rfl | ⟨q, rfl, _⟩
    · cases hp
    · rw [List.mem_singleton.1 hp]; exact hf
  · rintro e w' ⟨rfl, A, C, p, own', np', Dp', so', sc', a, c, ca, cc', hA⟩
    have hAC : A = [] ∧ C = [] ∧ p.st.L = entF ps := by
      rcases hps with rfl | ⟨q, rfl, hq⟩
      · rcases hA.isp with e | ⟨e1, e2, e3, _⟩
        · simp at e
        · exact ⟨e1, e2, by rw [e3]; rfl⟩
      · rcases hA.isp with e | ⟨_, _, _, _, e⟩
        · cases A with
          | nil =>
            simp only [List.nil_append, List.cons.injEq] at e
            exact ⟨rfl, e.2.symm, by rw [← e.1]; rfl⟩
          | cons y ys => simp at e
        · exact absurd hq (e q (by simp))
    obtain ⟨rfl, rfl, hL⟩ := hAC
    have hid : idF sl.length p.st.L = none := by
      rw [hL]
      rcases hps with rfl | ⟨q, rfl, _⟩
      · rfl
      · exact outs_none h1.outs (by simp)
    obtain ⟨B, M, m1, m2, m3, ⟨m4, m5⟩, m6⟩ := hA.r
    refine ⟨rfl, ⟨nmP, (tP k n).k, (tP k n).n, (tP k n).s, a, (tP k n).l.length, c, none, 0, 0, 0, ca, is.length, cc', gen + 1, 0⟩, newE sl.length (firstK (tP k n)) f p.st.lo p.st.hi, { p with own := own', st := (addS p.st sl.length (firstK (tP k n)) f).2, lv := p.lv + 1 }, B, M, ⟨rfl, rfl, rfl⟩, new_id _ _ _ _ _, ⟨hA.nme, ?_⟩, ⟨⟨rfl, rfl, rfl, rfl⟩, ⟨rfl, rfl, rfl⟩, rfl, rfl, m3, m4, m5, m2⟩, ⟨so', sc', np', Dp', hA.bi, fun q hq => ?_, fun q hq => ?_, ?_⟩, ?_⟩
    · show (addS p.st sl.length (firstK (tP k n)) f).2.L = _
      rw [add_L hid (by rw [hL]; exact hf), hL]
    · have h5 : w0.heap.size ≤ q ∧ ¬ Q q := by
        rcases hA.nw q hq with e | e
        · exact h2 q e
        · have h6 := h4.size
          exact ⟨by omega, fun hq => by have := h3 q hq; omega⟩
      refine ⟨h5.1, fun e => e.elim h5.2 (fun e => ?_)⟩
      rcases m6 q hq with h7 | h7
      · omega
      · omega
    · rcases hq with hq | hq
      · have := h3 q hq
        have := hA.o.size
        omega
      · omega
    · exact (h4.same o).trans hA.o (fun q hq e => by have := (h2 q e).1; omega)
    · exact hA.o.mono (fun q _ e => h2 q e)
theorem kill_bs (h : Bs b pm N sl [p] lim gen low Q w0 w) {i : Nat} {s : Sl} (hs : sl[i]? = some s) (hnm : p.nm = s.nm) (hki : ¬ s.ki > 0) (hN : N + 1 ≤ 100000) :
    Calls Try.prog 10 #[.pointer (some ⟨b, 0, none⟩), .int .i64 i] w fun e w' => e = .returned (.int .i64 0) ∧ Bs b pm (N + 1) (sl.set i { s with ki := gen + 1 }) [{ p with lv := p.lv - 1 }] lim (gen + 1) low Q w0 w' ∧ Only (fun q => w0.heap.size ≤ q ∧ ¬ Q q) w w' := by
  obtain ⟨so, sc, np, Dp, h1, h2, h3, h4⟩ := h
  refine (kill_yes (A := []) (C := []) h1 hs hnm hki hN).mono ?_
  rintro e w' ⟨rfl, hb, ho⟩
  refine ⟨rfl, ⟨so, sc, np, Dp, hb, fun k hk => h2 k ?_, fun k hk => Nat.lt_of_lt_of_le (h3 k hk) ho.size, h4.trans ho (fun q hq e => by have := (h2 q e).1; omega)⟩, ho.mono (fun q _ e => h2 q e)⟩
  rcases hk with hk | hk | hk | ⟨q, hq, hk⟩
  · exact .inl hk
  · exact .inr (.inl hk)
  · exact .inr (.inr (.inl hk))
  · rw [List.mem_singleton.1 hq] at hk
    exact .inr (.inr (.inr ⟨p, by simp, hk⟩))
end
end Go.Proofs.Ythfilpacmllhpab.bases
