/- Clauses by generations: a fact of one argument is added. -/
import Derived.Test.YthfilpacmllhpabBas16
namespace Go.Proofs.Ythfilpacmllhpab.bases
set_option maxRecDepth 100000
open Go.RowKit Go.Proofs.Ythfilpacmllhpab.own Go.Lib Go.Maps Go.WideMaps Go.Proofs.Ythfilpacmllhpab.idx Go.Proofs.Ythfilpacmllhpab.terms
/-- A fact p(x), of an x without parts. -/
def tP (k n : Int) : T := .mk 4 0 nP [.mk k n ⟨#[]⟩ []]
abbrev nmP : Nm := ⟨nP, 1⟩
theorem fit_of {x : Int} (h : Fits x) : idx.Fit x := WalkArith.wf_i64 (by unfold Fits at h; omega)
theorem sane_tP {k n : Int} : (tP k n).Sane := sane_comp (by decide +kernel) (small_lit (by simp))
theorem size_tP {k n : Int} : (tP k n).size ≤ 900000 := by simp [tP, T.size, sizes]
theorem nmP_ok : nmP.Ok := ⟨by decide +kernel, WalkArith.wf_i64 (by decide)⟩
theorem first_ok {k n : Int} (hn : Fits n) : (firstK (tP k n)).Ok := by
  have hz : ∀ a : Int, Fits a → idx.Fit a := fun a h => fit_of h
  have hf : firstK (tP k n) = keyF k n ⟨#[]⟩ 0 := rfl
  have c : ∀ a : Int, 0 ≤ a → a ≤ 3 → idx.Fit a := fun a h1 h2 => hz a (by unfold Fits; omega)
  rw [hf]
  unfold keyF
  split
  · exact ⟨c 1 (by decide) (by decide), hz n hn, small_lit (n := 0) (by omega)⟩
  · split
    · exact ⟨c 2 (by decide) (by decide), c 0 (by decide) (by decide), by decide +kernel⟩
    · split
      · exact ⟨c 3 (by decide) (by decide), c 0 (by decide) (by decide), by decide +kernel⟩
      · exact ⟨c 0 (by decide) (by decide), c 0 (by decide) (by decide), by decide +kernel⟩
section
variable {b pm N : Nat} {sl : List Sl} {ps A C : List Pc} {p p' : Pc} {lim gen low us : Int} {so : Option Addr} {sc np : Nat} {Dp : D3} {w w' W W' : World}
theorem add_p (h : BI b pm N sl ps lim gen low so sc np Dp w) (k n : Int) (hn : Fits n) (ao : Option Addr) (cap : Nat) (P : Nat → Prop) (hl : Row P w ao [.mk k n ⟨#[]⟩ []]) (hP : ∀ k, P k → k < w.heap.size ∧ k ≠ b ∧ k ≠ pm ∧ ¬ RowAt so k)
    (co : Option Addr) (cc : Nat) (is : List In) (hc : co = none → cc = 0) (hs : SrcOf encI w co is) (hb : ∀ ad, co = some ad → ad.block < w.heap.size ∧ ad.block ≠ b ∧ ad.block ≠ pm) (hil : is.length ≤ 100000)
    (hlim : sl.length < lim) (hfull : ∀ p ∈ ps, p.nm = nmP → p.st.L.length < 4096) (f : Bool) (hN : N + 2 ≤ 100000) (hsl : sl.length + 1 ≤ 10000) :
    Calls Try.prog 9 #[.pointer (some ⟨b, 0, none⟩), .agg #[.int .i64 4, .int .i64 0, .string ⟨#[112]⟩, .slice ao 1 cap, .slice none 0 0, .int .i64 0], .slice co is.length cc, .bool f] w fun e w' => e = .returned (.tuple #[.int .i64 sl.length, .int .i64 0]) ∧ ∃ A C p own' np' Dp' so' sc' a c ca cc', Added b pm N sl ps lim gen so nmP (tP k n) 0 is f w w' A C p own' np' Dp' so' sc' a c ca cc' :=
  add_any h (tP k n) ao cap 0 sane_tP P hl hP size_tP co cc is hc hs hb hil nmP rfl nmP_ok hlim hfull f (first_ok hn) hN hsl
/-- A list without code. -/
theorem src_nil (w : World) : SrcOf encI w none [] := ⟨fun _ => rfl, fun ad e => by cases e⟩
theorem src_one {w : World} {g : Nat} {x : In} (h : Pent g x w) : SrcOf encI w (some ⟨g, 0, none⟩) [x] := by
  refine ⟨fun e => (by cases e), fun ad e j u hu => ?_⟩
  cases e
  obtain ⟨h0, h1, h2, h3, h4⟩ := h.cells
  simp only [List.flatMap_cons, List.flatMap_nil, List.append_nil, encI] at hu
  match j, hu with
  | 0, hu => simpa [Addr.add] using h0.trans (by simpa using hu)
  | 1, hu => simpa [Addr.add] using h1.trans (by simpa using hu)
  | 2, hu => simpa [Addr.add] using h2.trans (by simpa using hu)
  | 3, hu => simpa [Addr.add] using h3.trans (by simpa using hu)
  | 4, hu => simpa [Addr.add] using h4.trans (by simpa using hu)
  | n + 5, hu => simp at hu
end
end Go.Proofs.Ythfilpacmllhpab.bases
