/- Operators: the reference's list at the beginning. -/
import Derived.Deep.AppendLies
import Derived.Deep.RegionLaw
import Derived.Test.YtodgjkdhkohckaaDoorOper31
namespace Go.Proofs.YtodgjkdhkohckaaDoor.opers
open Go.RowKit Go.Proofs.YtodgjkdhkohckaaDoor.own Go.Maps Go.Sort Go.Shelf Go.Proofs.YtodgjkdhkohckaaDoor.toks
section
variable {α : Type} {enc : α → List Value} {s : Nat}
/-- append of one item, in a region that draws its order. -/
theorem step_append_one {P : Program} {ops : Array Oper} {o : Oper} {a : Act} {K : Act → World → Prop} {Q : Exit → Act → World → Prop} {F : Prop} (L : Lies enc s) (hgd : o.guard = none) (sl x : Operand) (t : TypeId)
    (ho : o.op = .call { callee := .builtin .append, args := #[sl, x], argTypes := #[t, t] })
    (B E : Nat) (i : TypeInfo) (zz : Value) (by_ : Nat) (ht : P.underlying t = some (.slice E)) (hi : P.info? E = some i) (hz : i.zero = some zz) (hsize : i.size = s) (hby : i.bytes = by_) (hzs : zz.cells.size = s) (hbb : by_ ≤ 1024)
    (W : World) (ao : Option Addr) (cap : Nat) (xs : List α) (z : α) (cs : List Value) (hcs : enc z = cs) (hs : a.eval sl = .slice ao xs.length cap) (hrow : RowOf enc s E B ao cap xs W) (g : Nat) (ty : TypeId) (hnew : W.heap[g]? = some (.cells cs.toArray ty (0, 0)))
    (hx : a.eval x = .slice (some ⟨g, 0, none⟩) 1 1) (hlen : xs.length ≤ 16777216) (hB : B ≤ W.heap.size)
    (h : ∀ ao' cap' w', RowOf enc s E B ao' cap' (xs ++ [z]) w' → Only (RowAt ao) W w' → NewRow W.heap.size ao ao' → K (a.put o.dst (.slice ao' (xs.length + 1) cap')) w') :
    if Region.wanted o (yielded ops a.tmps) = true then Oper.wp P o a W K Q else F := by
  have hlc : cs.length = 1 * s := by rw [← hcs, L.len]; omega
  refine step_append_lies W hgd sl x t ho B E i zz s by_ ht hi hz hsize hby hzs L.pos (.slice ao xs.length cap) xs.length (xs.flatMap enc) hs hrow ⟨g, 0, none⟩ 1 1 cs hx hlc (fun j u hu => World.news_of_block (cs := cs.toArray) hnew j u (by simpa using hu))
    (by intro u hu; rw [← hcs] at hu; exact L.one z u hu) (by omega) (by unfold maxLen; omega) (by have := Nat.mul_le_mul (show xs.length + 1 ≤ 16777217 by omega) hbb; omega) hB W.heap.size rfl ?_
  intro g' cap' w' hown' hgrow hat _
  have hl : (xs ++ [z]).length = xs.length + 1 := by simp
  have hown2 : RowOf enc s E B (some ⟨g', 0, none⟩) cap' (xs ++ [z]) w' := by
    unfold RowOf
    rw [hl, List.flatMap_append, List.flatMap_cons, List.flatMap_nil, List.append_nil, hcs]
    exact hown'
  refine h _ cap' w' hown2 ?_ ?_
  · refine (Only.grown hgrow).mono ?_
    intro k _ hk
    cases ao with
    | none => simp [Value.ownBlock] at hk
    | some g0 => exact ⟨g0, rfl, by simpa [Value.ownBlock] using hk⟩
  · intro g0 hg
    cases hg
    rcases hat with hat | hat
    · cases ao with
      | none => simp [Value.ownBlock] at hat
      | some g1 =>
        have hg' := hrow.head g1 rfl
        simp only [Value.ownBlock, Option.some.injEq] at hat
        left
        rw [hg'.1, hat]
    · right
      show W.heap.size ≤ g'
      omega
end
theorem rowO_kind {B : Nat} {ao : Option Addr} {cap : Nat} {l : List Op3} {W : World} (h : RowOf encO 3 32 B ao cap l W) (g : Addr) (hg : ao = some g) : B ≤ g.block ∧ ∃ cs, W.heap[g.block]? = some (.cells cs 32 (0, 0)) := by
  rcases h.2 with ⟨h1, h2⟩ | ⟨g', cap', cur, hv, hb, hgg, _⟩
  · subst hg; simp at h1
  · subst hg
    simp only [Value.slice.injEq, Option.some.injEq] at hv
    rw [hv.1]
    exact ⟨hb, cur, hgg⟩
/-- What the reference's writers may turn: the table's cell and its row. -/
def RS (b : Nat) (ao : Option Addr) (q : Nat) : Prop := q = b ∨ RowAt ao q
/-- The list has grown by one, in a row that is new or the old one; the table's cell says so. -/
theorem RT.grown {B b : Nat} {ao ao' : Option Addr} {cap cap' : Nat} {l : List Op3} {x : Op3} {W w6 : World} (h : RT B b ao cap l W) (hr : RowOf encO 3 32 B ao' cap' (l ++ [x]) w6) (ho : Only (RowAt ao) W w6) (hn : NewRow W.heap.size ao ao') :
    RT B b ao' cap' (l ++ [x]) (w6.setCell ⟨b, 0, none⟩ (.slice ao' (l.length + 1) cap')) ∧ Only (RS b ao) W (w6.setCell ⟨b, 0, none⟩ (.slice ao' (l.length + 1) cap')) ∧ w6.cell? ⟨b, 0, none⟩ = some (.slice ao l.length cap) ∧ w6.frozen? ⟨b, 0, none⟩ = false := by
  have hb := lt_of_block h.box
  have hnb : ¬ RowAt ao b := fun ⟨g, hg, e⟩ => h.apart g hg e.symm
  have hap : ∀ g, ao' = some g → g.block ≠ b := fun g hg => by
    rcases hn g hg with e | e
    · exact h.apart g e
    · omega
  have hbox : w6.heap[b]? = some (.cells #[.slice ao l.length cap] 55 (0, 0)) := by rw [ho.block b hb hnb]; exact h.box
  refine ⟨⟨?_, ?_, h.ge, hap⟩, ?_, by rw [cell_of_blk hbox]; rfl, free_of_blk hbox 0⟩
  · have := blk_set hbox 0 (.slice ao' (l.length + 1) cap')
    rw [this]
    simp
  · exact hr.only (Only.setCell (S := fun q => q = b) (p := ⟨b, 0, none⟩) w6 rfl _) (fun g hg e => hap g hg e)
  · exact (ho.mono (fun q _ e => .inr e)).same (Only.setCell (S := RS b ao) (p := ⟨b, 0, none⟩) w6 (.inl rfl) _)
set_option maxRecDepth 100000 in
set_option maxHeartbeats 8000000 in
theorem add_any (B b a c : Nat) (ao : Option Addr) (cap : Nat) (l : List Op3) (p k : Int) (ns : List ByteArray) (w : World) (h : RT B b ao cap l w) (ha : w.heap[a]? = some (.cells (ns.map Value.string).toArray 9 (0, 0))) (hn : l.length + ns.length ≤ 100000) (hB : B ≤ w.heap.size) :
    Calls Tryd.prog 29 #[.pointer (some ⟨b, 0, none⟩), .int .i64 p, .int .i64 k, .slice (some ⟨a, 0, none⟩) ns.length c] w fun e w' => e = .returned (.tuple #[]) ∧ (∃ ao' cap', RT B b ao' cap' (l ++ ns.map (fun n => ⟨p, k, n⟩)) w' ∧ NewRow w.heap.size ao ao') ∧ Only (RS b ao) w w' := by
  obtain ⟨i0, hi0, hz0, hz1, hz2⟩ := info_parts infoO
  have HA : Hid (∀ W, Only (RS b ao) w W → ∀ j n, ns[j]? = some n → W.cell? ⟨a, j, none⟩ = some (.string n)) := Lib.hid (fun W ho j n hj => by
    have hna : ¬ RS b ao a := by
      rintro (e | ⟨g, hg, e⟩)
      · rw [e, h.box] at ha; simp at ha
      · obtain ⟨_, cs, hk⟩ := rowO_kind h.row g hg
        rw [← e, ha] at hk
        simp at hk
    rw [ho.cell (p := ⟨a, j, none⟩) (lt_of_block ha) hna, cell_of_blk ha]
    simp [hj])
  have HT := Lib.hid h
  clear h ha
  go_enter Tryd.func29, Tryd.ntmps29
  go_wp2_with fail
  go_loopw [8] (fun cc wr => ∃ (j : Nat) (l' : List Op3) (ao' : Option Addr) (cap' : Nat), cc = .int .i64 j ∧ j ≤ ns.length ∧ Hid (l' = l ++ (ns.take j).map (fun n => ⟨p, k, n⟩) ∧ RT B b ao' cap' l' wr ∧ NewRow w.heap.size ao ao' ∧ Only (RS b ao) w wr)) (fun cc _ => ns.length - (intOf cc).toNat)
  case atStart => exact ⟨0, l, ao, cap, rfl, by omega, Lib.hid ⟨by simp, HT.out, NewRow.refl _ _, Only.refl _ _⟩⟩
  case round =>
    obtain ⟨j, l', ao', cap', rfl, hj, hI⟩ := hrel
    by_cases hlt : j < ns.length
    · obtain ⟨n, hnj⟩ : ∃ n, ns[j]? = some n := ⟨_, List.getElem?_eq_getElem hlt⟩
      have c0 := HA.out wr hI.out.2.2.2 j n hnj
      obtain ⟨cb, fb⟩ := hI.out.2.1.cell
      have hll : l'.length ≤ 100000 := by rw [hI.out.1]; simp; omega
      have p0 : (0 : Int) ≤ (j : Int) := by omega
      have p1 : (j : Int) < (ns.length : Int) := by omega
      have HRW : Hid (∀ W, Only (fun _ => False) wr W → RT B b ao' cap' l' W) := Lib.hid (fun W ho => hI.out.2.1.later ho)
      have HNX : Hid (l' ++ [(⟨p, k, n⟩ : Op3)] = l ++ (ns.take (j + 1)).map (fun n => ⟨p, k, n⟩)) := Lib.hid (by rw [hI.out.1, List.take_add_one, hnj]; simp)
      have HOW := Lib.hid hI.out.2.2
      have HBS : Hid (∀ W, Only (fun _ => False) wr W → B ≤ W.heap.size) := Lib.hid (fun W ho => Nat.le_trans hB (Nat.le_trans HOW.out.2.size ho.size))
      have oA : Only (fun _ => False) wr ((wr.alloc (.cells #[.int .i64 p, .int .i64 k, .string n] 32)).drew) := (Only.alloc _ _ _).same (Only.drew _ _)
      obtain ⟨cbA, fbA⟩ := (HRW.out _ oA).cell
      have c0A := HA.out _ (hI.out.2.2.2.trans oA (fun _ _ e => e.elim)) j n hnj
      clear hnj hI oA
      go_wp2_with fail
      go_region_law
        ((refine step_append_one lieO (by rfl) (.tmp 19) (.tmp 27) 29 (by rfl) B 32 i0 _ 32 Tryd.underlying29 hi0 hz0 hz1 hz2 rfl (by omega) _ ao' cap' l' ⟨p, k, n⟩ [.int .i64 p, .int .i64 k, .string n] rfl (by rfl) (HRW.out _ (by first | exact Only.alloc _ _ _ | exact (Only.drew _ _).same (Only.alloc _ _ _) | exact (Only.alloc _ _ _).same (Only.drew _ _))).row _ _ (by first | exact heap_alloc_new _ _ | exact heap_alloc_new wr _) (by rfl) (by omega) (HBS.out _ (by first | exact Only.alloc _ _ _ | exact (Only.drew _ _).same (Only.alloc _ _ _) | exact (Only.alloc _ _ _).same (Only.drew _ _))) ?_
          intro ao2 cap2 w6 hrow6 ho6 hnew6
          have HG := Lib.hid (RT.grown (HRW.out _ (by first | exact Only.alloc _ _ _ | exact (Only.drew _ _).same (Only.alloc _ _ _) | exact (Only.alloc _ _ _).same (Only.drew _ _))) hrow6 ho6 hnew6)
          have HO6 : Hid (Only (RS b ao') wr (w6.setCell ⟨b, 0, none⟩ (.slice ao2 (l'.length + 1) cap2))) := Lib.hid (Only.trans (S := RS b ao') (by first | exact Only.alloc _ _ _ | exact (Only.drew _ _).same (Only.alloc _ _ _) | exact (Only.alloc _ _ _).same (Only.drew _ _)) HG.out.2.1 (fun _ _ e => e))
          have HN6 : Hid (NewRow wr.heap.size ao' ao2) := Lib.hid (fun g hg => (hnew6 g hg).imp id (fun e => Nat.le_trans (by simp) e))
          have cb6 := HG.out.2.2.1
          have fb6 := HG.out.2.2.2
          clear hrow6 ho6 hnew6))
      all_goals
        have HNR : Hid (NewRow w.heap.size ao ao2) := Lib.hid (fun g hg => by
          rcases HN6.out g hg with e | e
          · exact HOW.out.1 g e
          · exact .inr (Nat.le_trans HOW.out.2.size e))
        have HOZ : Hid (Only (RS b ao) w (w6.setCell ⟨b, 0, none⟩ (.slice ao2 (l'.length + 1) cap2))) := Lib.hid (HOW.out.2.trans HO6.out (fun q hq e => by
          rcases e with e | ⟨g, hg, e⟩
          · exact .inl e
          · rcases HOW.out.1 g hg with e2 | e2
            · exact .inr ⟨g, e2, e⟩
            · omega))
        have HGR := Lib.hid HG.out.1
        clear HG HO6 HN6 cb6 fb6 HRW HBS HOW
        go_wp2_with fail
        go_roundw
        case rel => exact ⟨j + 1, l' ++ [⟨p, k, n⟩], ao2, cap2, by go_num, by omega, Lib.hid ⟨HNX.out, HGR.out, HNR.out, HOZ.out⟩⟩
        case measure => simp [intOf]; omega
    · have HFIN : Hid ((∃ ao' cap', RT B b ao' cap' (l ++ ns.map (fun n => ⟨p, k, n⟩)) wr ∧ NewRow w.heap.size ao ao') ∧ Only (RS b ao) w wr) := Lib.hid ⟨⟨ao', cap', by have := hI.out.2.1; rw [hI.out.1, List.take_of_length_le (by omega)] at this; exact this, hI.out.2.2.1⟩, hI.out.2.2.2⟩
      obtain rfl : j = ns.length := by omega
      clear hI
      go_wp2_with fail
      go_end0
      exact ⟨rfl, HFIN.out⟩
end Go.Proofs.YtodgjkdhkohckaaDoor.opers
