/- Clauses by generations: what is asked of lives: the calls that turn the base. -/
import Derived.Test.YthfilpacmllhpabBas18
namespace Go.Proofs.Ythfilpacmllhpab.bases
set_option maxRecDepth 100000
open Go.RowKit Go.Proofs.Ythfilpacmllhpab.own Go.Lib Go.Maps Go.WideMaps Go.Proofs.Ythfilpacmllhpab.idx Go.Proofs.Ythfilpacmllhpab.terms
theorem Bs.new {b pm : Nat} {l : Int} {w w' : World} (hb : b = w.heap.size + 1) (hp : pm = w.heap.size) (h : BI b pm 0 [] [] l 0 0 none 0 0 (.map []) w') (o : Only (fun _ => False) w w') : Bs b pm 0 [] [] l 0 0 (fun _ => False) w w' := by
  refine ⟨none, 0, 0, .map [], h, ?_, fun k hk => hk.elim, o⟩
  rintro k (rfl | ⟨g, hg, _⟩ | rfl | ⟨q, hq, _⟩)
  · exact ⟨by omega, fun e => e⟩
  · cases hg
  · exact ⟨by omega, fun e => e⟩
  · cases hq
abbrev iP : In := ⟨25, ⟨#[]⟩, 0, 0, 0⟩
/-- The base that lives makes. -/
structure Made (b pm : Nat) (s0 s1 : Sl) (e0 e1 : En) (p : Pc) (B0 M0 B1 M1 : Nat) (Q : Nat → Prop) (w0 w : World) : Prop where
  bs : Bs b pm 5 [s0, s1] [p] 3 3 1 Q w0 w
  a0 : s0.nm = nmP ∧ s0.ad = 1 ∧ s0.ki = 3
  a1 : s1.nm = nmP ∧ s1.ad = 2 ∧ s1.ki = 0
  i0 : e0.id = 0
  i1 : e1.id = 1
  pn : p.nm = nmP
  L : p.st.L = [e1, e0]
  h0 : Holds s0 (tP 2 1) [iP] B0 M0 w
  h1 : Holds s1 (tP 2 2) [] B1 M1 w
/-- The base with its first fact. -/
def Made1 (b : Nat) (w0 w : World) : Prop := ∃ pm s0 x p B M, Bs b pm 2 [s0] [p] 3 1 0 (fun q => False ∨ (B ≤ q ∧ q < M)) w0 w ∧ (s0.nm = nmP ∧ s0.ad = 1 ∧ s0.ki = 0) ∧ x.id = 0 ∧ p.nm = nmP ∧ p.st.L = [x] ∧ Holds s0 (tP 2 1) [iP] B M w
/-- .. with both. -/
def Made2 (b : Nat) (w0 w : World) : Prop := ∃ pm s0 s1 e0 e1 p B0 M0 B1 M1 Q, Bs b pm 4 [s0, s1] [p] 3 2 1 Q w0 w ∧ (s0.nm = nmP ∧ s0.ad = 1 ∧ s0.ki = 0) ∧ (s1.nm = nmP ∧ s1.ad = 2 ∧ s1.ki = 0) ∧ e0.id = 0 ∧ e1.id = 1 ∧ p.nm = nmP ∧ p.st.L = [e1, e0] ∧ Holds s0 (tP 2 1) [iP] B0 M0 w ∧ Holds s1 (tP 2 2) [] B1 M1 w ∧ (∀ q, (B0 ≤ q ∧ q < M0) ∨ (B1 ≤ q ∧ q < M1) → Q q)
def Made3 (b : Nat) (w0 w : World) : Prop := ∃ pm s0 s1 e0 e1 p B0 M0 B1 M1 Q, Made b pm s0 s1 e0 e1 p B0 M0 B1 M1 Q w0 w
section
variable {b pm : Nat} {w0 w W w' : World}
theorem add_one (h : Bs b pm 0 [] [] 3 0 0 (fun _ => False) w0 W) (o : Only (fun _ => False) W w) (ao : Option Addr) (cap : Nat) (hl : Row (fun q => W.heap.size ≤ q ∧ q < w.heap.size) w ao [sInt 1]) (g : Nat) (hg : Pent g iP w) (hgw : W.heap.size ≤ g) :
    Calls Try.prog 9 #[.pointer (some ⟨b, 0, none⟩), .agg #[.int .i64 4, .int .i64 0, .string ⟨#[112]⟩, .slice ao 1 cap, .slice none 0 0, .int .i64 0], .slice (some ⟨g, 0, none⟩) 1 1, .bool false] w fun e w' => e = .returned (.tuple #[.int .i64 0, .int .i64 0]) ∧ Made1 b w0 w' := by
  refine (add_bs h o (.inl rfl) (by decide) 2 1 (by unfold Fits; omega) ao cap hl (some ⟨g, 0, none⟩) 1 [iP] (by intro e; cases e) (src_one hg) (fun ad e => by cases e; exact ⟨lt_of_block hg, hgw⟩) (by decide) (by decide) false (by decide) (by decide)).mono ?_
  rintro e w' ⟨rfl, s, x, p', B, M, h1, h2, h3, h4, h5, h6⟩
  exact ⟨rfl, pm, s, x, p', B, M, h5, h1, h2, h3.1, h3.2, h4⟩
theorem add_two (h : Made1 b w0 W) (o : Only (fun _ => False) W w) (ao : Option Addr) (cap : Nat) (hl : Row (fun q => W.heap.size ≤ q ∧ q < w.heap.size) w ao [sInt 2]) :
    Calls Try.prog 9 #[.pointer (some ⟨b, 0, none⟩), .agg #[.int .i64 4, .int .i64 0, .string ⟨#[112]⟩, .slice ao 1 cap, .slice none 0 0, .int .i64 0], .slice none 0 0, .bool true] w fun e w' => e = .returned (.tuple #[.int .i64 1, .int .i64 0]) ∧ Made2 b w0 w' := by
  obtain ⟨pm, s0, x, p, B, M, g1, g2, g3, g4, g5, g6⟩ := h
  have hent : entF [p] = [x] := g5
  refine (add_bs g1 o (.inr ⟨p, rfl, g4⟩) (by rw [hent]; simp) 2 2 (by unfold Fits; omega) ao cap hl none 0 [] (fun _ => rfl) (src_nil _) (fun ad e => by cases e) (by decide) (by simp) true (by decide) (by simp)).mono ?_
  rintro e w' ⟨rfl, s, y, p', B', M', h1, h2, h3, h4, h5, h6⟩
  have g7 := g6.only o (fun _ _ _ e => e)
  have g8 := g7.only h6 (fun k h1 h2 e => e.2 (.inr ⟨h1, h2⟩))
  refine ⟨rfl, pm, s0, s, x, y, p', B, M, B', M', _, h5, g2, h1, g3, h2, h3.1, ?_, g8, h4, fun q hq => ?_⟩
  · rw [h3.2, hent]; rfl
  · rcases hq with hq | hq
    · exact .inl (.inr hq)
    · exact .inr hq
theorem kill_zero (h : Made2 b w0 w) : Calls Try.prog 10 #[.pointer (some ⟨b, 0, none⟩), .int .i64 0] w fun e w' => e = .returned (.int .i64 0) ∧ Made3 b w0 w' := by
  obtain ⟨pm, s0, s1, e0, e1, p, B0, M0, B1, M1, Q, g1, g2, g3, g4, g5, g6, g7, g8, g9, g10⟩ := h
  refine (kill_bs (i := 0) (s := s0) g1 rfl (by rw [g6, g2.1]) (by rw [g2.2.2]; decide) (by decide)).mono ?_
  rintro e w' ⟨rfl, h1, h2⟩
  have k0 := g8.only h2 (fun k h1 h2 e => e.2 (g10 k (.inl ⟨h1, h2⟩)))
  have k1 := g9.only h2 (fun k h1 h2 e => e.2 (g10 k (.inr ⟨h1, h2⟩)))
  exact ⟨rfl, pm, { s0 with ki := 2 + 1 }, s1, e0, e1, { p with lv := p.lv - 1 }, B0, M0, B1, M1, Q, h1, ⟨g2.1, g2.2.1, rfl⟩, g3, g4, g5, g6, g7, ⟨k0.hk, k0.hg, k0.vs, k0.cl, k0.r, k0.c, k0.cm, k0.m⟩, k1⟩
end
end Go.Proofs.Ythfilpacmllhpab.bases
