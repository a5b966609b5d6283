/- Terms: a call and an append in a region that draws its order; a list of arguments under way. -/
import Derived.Deep.AppendLies
import Derived.Deep.RegionLaw
import Derived.Test.YtoogmlgaeipenaaTermE
import Derived.Test.YtoogmlgaeipenaaTermC
namespace Go.Proofs.Ytoogmlgaeipenaa.own
open Go.RowKit
/-- A call of a Go function in a region that draws its order. -/
theorem step_callTo {P : Program} {ops : Array Oper} {o : Oper} {a : Act} {w : World} {K : Act → World → Prop} {Q : Exit → Act → World → Prop} {E : Prop} (hgd : o.guard = none) (f : FuncId) (args : Array Value)
    (hrun : (execOp a.eval o).run P w = .ok (.enter f args) w) (R : Ending → World → Prop) (hc : Calls P f args w R) (h : ∀ e w', R e w' → ∃ v, e = .returned v ∧ K (a.put o.dst v) w') :
    if Region.wanted o (yielded ops a.tmps) = true then Oper.wp P o a w K Q else E := by
  have hw : Region.wanted o (yielded ops a.tmps) = true := by simp [Region.wanted, hgd]
  rw [if_pos hw]
  unfold Oper.wp
  rw [hrun, Oper.upon_enter]
  refine hc.mono fun e w'' hh => ?_
  obtain ⟨v, rfl, hk⟩ := h e w'' hh
  exact hk
section
variable {α : Type} {enc : α → List Value} {s : Nat}
/-- append of one item, in a region that draws its order. -/
theorem step_append_one {P : Program} {ops : Array Oper} {o : Oper} {a : Act} {K : Act → World → Prop} {Q : Exit → Act → World → Prop} {F : Prop} (L : Lies enc s) (hgd : o.guard = none) (sl x : Operand) (t : TypeId)
    (ho : o.op = .call { callee := .builtin .append, args := #[sl, x], argTypes := #[t, t] })
    (B E : Nat) (i : TypeInfo) (zz : Value) (by_ : Nat) (ht : P.underlying t = some (.slice E)) (hi : P.info? E = some i) (hz : i.zero = some zz) (hsize : i.size = s) (hby : i.bytes = by_) (hzs : zz.cells.size = s) (hbb : by_ ≤ 1024)
    (W : World) (ao : Option Addr) (cap : Nat) (xs : List α) (z : α) (cs : List Value) (hcs : enc z = cs) (hs : a.eval sl = .slice ao xs.length cap) (hrow : RowOf enc s E B ao cap xs W) (g : Nat) (ty : TypeId) (hnew : W.heap[g]? = some (.cells cs.toArray ty (0, 0)))
    (hx : a.eval x = .slice (some ⟨g, 0, none⟩) 1 1) (hlen : xs.length ≤ 16777216) (hB : B ≤ W.heap.size)
    (h : ∀ ao' cap' w', RowOf enc s E B ao' cap' (xs ++ [z]) w' → Only (RowAt ao) W w' → NewRow W.heap.size ao ao' → K (a.put o.dst (.slice ao' (xs.length + 1) cap')) w') :
    if Region.wanted o (yielded ops a.tmps) = true then Oper.wp P o a W K Q else F := by
  have hlc : cs.length = 1 * s := by rw [← hcs, L.len]; omega
  refine step_append_lies W hgd sl x t ho B E i zz s by_ ht hi hz hsize hby hzs L.pos (.slice ao xs.length cap) xs.length (xs.flatMap enc) hs hrow ⟨g, 0, none⟩ 1 1 cs hx hlc (fun j u hu => World.news_of_block (cs := cs.toArray) hnew j u (by simpa using hu))
    (by intro u hu; rw [← hcs] at hu; exact L.one z u hu) (by omega) (by unfold maxLen; omega) (by have := Nat.mul_le_mul (show xs.length + 1 ≤ 16777217 by omega) hbb; omega) hB W.heap.size rfl ?_
  intro g' cap' w' hown' hgrow hat _
  have hl : (xs ++ [z]).length = xs.length + 1 := by simp
  have hown2 : RowOf enc s E B (some ⟨g', 0, none⟩) cap' (xs ++ [z]) w' := by
    unfold RowOf
    rw [hl, List.flatMap_append, List.flatMap_cons, List.flatMap_nil, List.append_nil, hcs]
    exact hown'
  refine h _ cap' w' hown2 ?_ ?_
  · refine (Only.grown hgrow).mono ?_
    intro k _ hk
    cases ao with
    | none => simp [Value.ownBlock] at hk
    | some g0 => exact ⟨g0, rfl, by simpa [Value.ownBlock] using hk⟩
  · intro g0 hg
    cases hg
    rcases hat with hat | hat
    · cases ao with
      | none => simp [Value.ownBlock] at hat
      | some g1 =>
        have hg' := hrow.head g1 rfl
        simp only [Value.ownBlock, Option.some.injEq] at hat
        left
        rw [hg'.1, hat]
    · right
      show W.heap.size ≤ g'
      omega
end
end Go.Proofs.Ytoogmlgaeipenaa.own
namespace Go.Proofs.Ytoogmlgaeipenaa.terms
open Go.RowKit Go.Proofs.Ytoogmlgaeipenaa.own Go.Maps
/-- A term's arguments under way: ys lie in its out, at b5. -/
structure BuildI (B0 : Nat) (w : World) (b5 : Nat) (k n : Int) (s : ByteArray) (ys : List T) (its : List It) (oo : Option Addr) (oc : Nat) (wr : World) : Prop where
  out : Quad b5 (.int .i64 k) (.int .i64 n) (.string s) (.slice oo its.length oc) wr
  row : ItsP (b5 + 1) oo oc its wr
  eq : its.map (·.t) = ys
  subs : ∀ (i : Nat) (x : It), its[i]? = some x → x.t.Sane ∧ Row (fun q => (q < B0 ∨ b5 < q) ∧ q < wr.heap.size ∧ ¬ RowAt oo q) wr x.ao x.t.l
  res : Quad (w.heap.size + 1) (.int .i64 0) (.int .i64 0) (.string ⟨#[]⟩) (.slice none 0 0) wr
  own : Only (fun _ => False) w wr
theorem BuildI.step {B0 : Nat} {w : World} {b5 : Nat} {k n : Int} {s : ByteArray} {ys : List T} {its : List It} {oo : Option Addr} {oc : Nat} {wr : World} (h : BuildI B0 w b5 k n s ys its oo oc wr) (hB0 : B0 ≤ b5) (hb5 : b5 = w.heap.size + 2) {w3 w4 w5 : World} {x : T} {xo : Option Addr} {xc : Nat} (ho3 : Only (fun _ => False) wr w3) (hx : x.Sane) (hrow3 : Row (fun q => q < B0 ∨ (wr.heap.size ≤ q ∧ q < w3.heap.size)) w3 xo x.l) (ho4 : Only (fun _ => False) w3 w4)
    {oo' : Option Addr} {oc' : Nat} (hrow5 : ItsP (b5 + 1) oo' oc' (its ++ [⟨x, xo, xc⟩]) w5) (ho5 : Only (RowAt oo) w4 w5) (hnew : NewRow w4.heap.size oo oo') :
    BuildI B0 w b5 k n s (ys ++ [x]) (its ++ [⟨x, xo, xc⟩]) oo' oc' (w5.setCell ⟨b5, 3, none⟩ (.slice oo' (its.length + 1) oc')) := by
  have hbl := lt_of_block h.out
  have s3 := ho3.size
  have s4 := ho4.size
  have s5 := ho5.size
  have hno : ∀ q, q ≤ b5 → ¬ RowAt oo q := by
    rintro q hq ⟨g, hg, e⟩
    have := (h.row.head g hg).2.1
    omega
  have hno' : ∀ q, q < w4.heap.size → ¬ RowAt oo q → ¬ RowAt oo' q := by
    rintro q hq hn ⟨g, hg, e⟩
    rcases hnew g hg with h1 | h1
    · exact hn ⟨g, h1, e⟩
    · omega
  have hq5 : Quad b5 (.int .i64 k) (.int .i64 n) (.string s) (.slice oo its.length oc) w5 := (h.out.only (ho3.same ho4) (fun e => e)).only ho5 (hno b5 (Nat.le_refl _))
  have o6 : Only (fun q => q = b5) w5 (w5.setCell ⟨b5, 3, none⟩ (.slice oo' (its.length + 1) oc')) := Only.setCell (S := fun q => q = b5) _ (p := ⟨b5, 3, none⟩) rfl _
  have s6 := o6.size
  have h34 := h.own.same (ho3.same ho4)
  refine ⟨?_, hrow5.only o6 (fun g hg e => by have := (hrow5.head g hg).2.1; omega), by rw [List.map_append, h.eq]; rfl, fun i z hz => ?_, ?_, ?_⟩
  · have := blk_set hq5 3 (.slice oo' (its.length + 1) oc')
    unfold Quad
    simpa using this
  · by_cases hi : i < its.length
    · rw [List.getElem?_append_left hi] at hz
      obtain ⟨h1, h2⟩ := h.subs i z hz
      refine ⟨h1, ((((h2.only (ho3.same ho4) (fun q hq => hq.2.1) (fun _ _ e => e)).only ho5 (fun q hq => by have := hq.2.1; omega) (fun q hq e => hq.2.2 e)).only o6 (fun q hq => by have := hq.2.1; omega) (fun q hq e => ?_))).mono (fun q hq => ⟨hq.1, by have := hq.2.1; omega, hno' q (by have := hq.2.1; omega) hq.2.2⟩)⟩
      rcases hq.1 with h3 | h3 <;> omega
    · rw [List.getElem?_append_right (by omega)] at hz
      have hi0 : i - its.length = 0 := by
        cases hc : i - its.length with
        | zero => rfl
        | succ m => rw [hc] at hz; simp at hz
      rw [hi0] at hz
      simp only [List.getElem?_cons_zero, Option.some.injEq] at hz
      subst hz
      have hw3 : ∀ q, (q < B0 ∨ (wr.heap.size ≤ q ∧ q < w3.heap.size)) → q < w3.heap.size := fun q hq => by rcases hq with hq | hq <;> omega
      have hr3 : ∀ q, (q < B0 ∨ (wr.heap.size ≤ q ∧ q < w3.heap.size)) → ¬ RowAt oo q := fun q hq => by
        rcases hq with hq | hq
        · exact hno q (by omega)
        · rintro ⟨g, hg, e⟩
          have := (h.row.head g hg).2.2
          omega
      refine ⟨hx, (((hrow3.only ho4 hw3 (fun _ _ e => e)).only ho5 (fun q hq => by have := hw3 q hq; omega) hr3).only o6 (fun q hq => by have := hw3 q hq; omega) (fun q hq e => ?_)).mono (fun q hq => ⟨?_, by have := hw3 q hq; omega, hno' q (by have := hw3 q hq; omega) (hr3 q hq)⟩)⟩
      · rcases hq with hq | hq <;> omega
      · rcases hq with hq | hq
        · exact .inl hq
        · exact .inr (by omega)
  · exact ((h.res.only (ho3.same ho4) (fun e => e)).only ho5 (hno _ (by omega))).only o6 (by omega)
  · refine (h34.trans ho5 (fun q hq e => ?_)).trans o6 (fun q hq e => by omega)
    exact (hno q (by omega) e)
end Go.Proofs.Ytoogmlgaeipenaa.terms
