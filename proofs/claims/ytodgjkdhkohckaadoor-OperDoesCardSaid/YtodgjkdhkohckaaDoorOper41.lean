/- Operators: both tables beside each other; one call of both: a Set. -/
import Derived.Test.YtodgjkdhkohckaaDoorOper40
import Derived.Test.YtodgjkdhkohckaaDoorOper14
import Derived.Deep.RegionWith
import Derived.Deep.RegionHeld3
namespace Go.Proofs.YtodgjkdhkohckaaDoor.opers
open Go.RowKit Go.Proofs.YtodgjkdhkohckaaDoor.own Go.Maps Go.Sort Go.Shelf Go.Proofs.YtodgjkdhkohckaaDoor.toks
/-- The program's table and the reference's one, both of this call's own. -/
structure Two (N b mi mp n : Nat) (Di Dp : D1) (x : Nat) (ao : Option Addr) (cap : Nat) (l : List Op3) (W : World) : Prop where
  t : Tb b mi mp n n Di Dp W
  r : RT N x ao cap l W
  hi : N ≤ mi
  hp : N ≤ mp
theorem Two.later {N b mi mp n : Nat} {Di Dp : D1} {x : Nat} {ao : Option Addr} {cap : Nat} {l : List Op3} {W W' : World} (h : Two N b mi mp n Di Dp x ao cap l W) (ho : Only (fun _ => False) W W') : Two N b mi mp n Di Dp x ao cap l W' := ⟨h.t.later ho, h.r.later ho, h.hi, h.hp⟩
/-- A row of cells of another type than the tables' and the list's. -/
def OtherT (t : TypeId) : Prop := t ≠ 55 ∧ t ≠ 32
theorem Two.notP {N b mi mp n : Nat} {Di Dp : D1} {x : Nat} {ao : Option Addr} {cap : Nat} {l : List Op3} {W : World} (h : Two N b mi mp n Di Dp x ao cap l W) {g : Nat} {cs : Array Value} {t : TypeId} (hg : W.heap[g]? = some (.cells cs t (0, 0))) : ¬ (g = mi ∨ g = mp) := by
  have h1 := map_ne h.t.i hg
  have h2 := map_ne h.t.p hg
  rintro (e | e) <;> omega
theorem RT.notR {N x : Nat} {ao : Option Addr} {cap : Nat} {l : List Op3} {W : World} (h : RT N x ao cap l W) {g : Nat} {cs : Array Value} {t : TypeId} (hg : W.heap[g]? = some (.cells cs t (0, 0))) (ht : OtherT t) : ¬ RS x ao g := by
  rintro (e | ⟨a, ha, e⟩)
  · subst e
    rw [h.box] at hg
    simp only [Option.some.injEq, Obj.cells.injEq] at hg
    exact ht.1 hg.2.1.symm
  · obtain ⟨_, cs', hk⟩ := rowO_kind h.row a ha
    rw [← e, hg] at hk
    simp only [Option.some.injEq, Obj.cells.injEq] at hk
    exact ht.2 hk.2.1
theorem RT.notM {N x m n : Nat} {D : D1} {ao : Option Addr} {cap : Nat} {l : List Op3} {W : World} (h : RT N x ao cap l W) (hm : OMap W m n D) : ¬ RS x ao m := by
  rintro (e | ⟨a, ha, e⟩)
  · exact map_ne hm h.box e
  · obtain ⟨_, cs', hk⟩ := rowO_kind h.row a ha
    exact map_ne hm hk e
theorem Two.setP {N b mi mp n : Nat} {Di Dp : D1} {x : Nat} {ao : Option Addr} {cap : Nat} {l : List Op3} {W : World} (h : Two N b mi mp n Di Dp x ao cap l W) (p k : Int) (s : ByteArray) (hs : s.size ≤ 1000) (hn : n ≤ 50000) :
    Calls Tryd.prog 24 #[.pointer (some ⟨b, 0, none⟩), .agg #[.int .i64 p, .int .i64 k, .string s]] W fun e w' => e = .returned (.int .i64 (setE Di Dp p k s)) ∧ Two N b mi mp (n + 1) (setI Di Dp p k s) (setP Di Dp p k s) x ao cap l w' ∧ Only (fun q => q = mi ∨ q = mp) W w' := by
  refine Calls.mono (set_any h.t p k s (by unfold maxLen; omega) (by omega)) ?_
  rintro e w' ⟨rfl, ht, ho⟩
  exact ⟨rfl, ⟨ht, h.r.only ho (h.notP h.r.box) (fun g hg => by
    obtain ⟨_, cs', hk⟩ := rowO_kind h.r.row g hg
    exact h.notP hk), h.hi, h.hp⟩, ho⟩
theorem Two.setR {N b mi mp n : Nat} {Di Dp : D1} {x : Nat} {ao : Option Addr} {cap : Nat} {l : List Op3} {W : World} (h : Two N b mi mp n Di Dp x ao cap l W) (p k : Int) (s : ByteArray) (hs : s.size ≤ 1000) (hn : l.length ≤ 100000) :
    Calls Tryd.prog 40 #[.pointer (some ⟨x, 0, none⟩), .agg #[.int .i64 p, .int .i64 k, .string s]] W fun e w' => e = .returned (.int .i64 (setRE l p k s)) ∧ (∃ ao' cap', Two N b mi mp n Di Dp x ao' cap' (nowL l p k s) w') ∧ Only (RS x ao) W w' := by
  refine Calls.mono (rset_any N x ao cap l p k s W h.r (by omega) hn) ?_
  rintro e w' ⟨rfl, ⟨ao', cap', hr, _⟩, ho⟩
  exact ⟨rfl, ⟨ao', cap', h.t.only ho (h.r.notR h.t.box ⟨by decide, by decide⟩) (h.r.notM h.t.i) (h.r.notM h.t.p), hr, h.hi, h.hp⟩, ho⟩
theorem Two.len {N b mi mp n : Nat} {Di Dp : D1} {x : Nat} {ao : Option Addr} {cap : Nat} {l : List Op3} {W : World} (h : Two N b mi mp n Di Dp x ao cap l W) (hl : l.length = Maps.size Di + Maps.size Dp) : l.length ≤ 2 * n := by
  have h1 := h.t.i.size_le
  have h2 := h.t.p.size_le
  omega
/-- A call of the law in a cell of its own. -/
abbrev opB (c p k : Int) (s m : ByteArray) : Obj := .cells #[.int .i64 c, .int .i64 p, .int .i64 k, .string s, .string m] 34
def BoxAt (g : Nat) (c p k : Int) (s m : ByteArray) (W : World) : Prop := W.heap[g]? = some (.cells #[.int .i64 c, .int .i64 p, .int .i64 k, .string s, .string m] 34 (0, 0))
theorem BoxAt.cells {g : Nat} {c p k : Int} {s m : ByteArray} {W : World} (h : BoxAt g c p k s m W) : W.cell? ⟨g, 0, none⟩ = some (.int .i64 c) ∧ W.cell? ⟨g, 1, none⟩ = some (.int .i64 p) ∧ W.cell? ⟨g, 2, none⟩ = some (.int .i64 k) ∧ W.cell? ⟨g, 3, none⟩ = some (.string s) ∧ W.cell? ⟨g, 4, none⟩ = some (.string m) := by
  refine ⟨?_, ?_, ?_, ?_, ?_⟩ <;> (rw [cell_of_blk h]; rfl)
theorem BoxAt.only {g : Nat} {c p k : Int} {s m : ByteArray} {W W' : World} {S : Nat → Prop} (h : BoxAt g c p k s m W) (ho : Only S W W') (hS : ¬ S g) : BoxAt g c p k s m W' := by
  unfold BoxAt
  rw [ho.block g (lt_of_block h) hS]
  exact h
theorem BoxAt.new (c p k : Int) (s m : ByteArray) (W : World) : BoxAt W.heap.size c p k s m (W.alloc (opB c p k s m)) := heap_alloc_new _ _
theorem otherOp : OtherT 34 := ⟨by decide, by decide⟩
/-- What one call of both leaves. -/
def DoOut (N n x : Nat) (W W' : World) (e : Ending) : Prop := ∃ b mi mp Di Dp ao cap l, e = .returned (.tuple #[.pointer (some ⟨b, 0, none⟩), .bool true]) ∧ Two N b mi mp (n + 2) Di Dp x ao cap l W' ∧ Rel Di Dp l ∧ Only (fun q => N ≤ q) W W'
theorem Two.more {N b mi mp n n' : Nat} {Di Dp : D1} {x : Nat} {ao : Option Addr} {cap : Nat} {l : List Op3} {W : World} (h : Two N b mi mp n Di Dp x ao cap l W) (hn : n ≤ n') : Two N b mi mp n' Di Dp x ao cap l W := ⟨h.t.mono hn hn, h.r, h.hi, h.hp⟩
theorem RT.old {N x : Nat} {ao : Option Addr} {cap : Nat} {l : List Op3} {W : World} (h : RT N x ao cap l W) (q : Nat) (hq : RS x ao q) : N ≤ q := by
  rcases hq with rfl | ⟨g, hg, rfl⟩
  · exact h.ge
  · exact (h.row.head g hg).2.1
set_option maxRecDepth 100000 in
set_option maxHeartbeats 8000000 in
theorem do_set {N b mi mp n : Nat} {Di Dp : D1} {x : Nat} {ao : Option Addr} {cap : Nat} {l : List Op3} {w : World} (h : Two N b mi mp n Di Dp x ao cap l w) (hr : Rel Di Dp l) (hl : l.length = Maps.size Di + Maps.size Dp) (hn : n ≤ 50000) (p k : Int) (s m : ByteArray) (hs : s.size ≤ 1000) :
    Calls Tryd.prog 14 #[.pointer (some ⟨b, 0, none⟩), .pointer (some ⟨x, 0, none⟩), .agg #[.int .i64 1, .int .i64 p, .int .i64 k, .string s, .string m]] w fun e w' => DoOut N n x w w' e := by
  have hll := h.len hl
  obtain ⟨hr2, he⟩ := hr.now hl p k s
  have o0 : Only (fun _ => False) w (w.alloc (opB 1 p k s m)) := Only.alloc _ _ _
  have oD : Only (fun _ => False) w (w.alloc (opB 1 p k s m)).drew := o0.same (Only.drew _ _)
  have HB0 : Hid (BoxAt w.heap.size 1 p k s m (w.alloc (opB 1 p k s m))) := Lib.hid (BoxAt.new _ _ _ _ _ _)
  have HB : Hid (BoxAt w.heap.size 1 p k s m (w.alloc (opB 1 p k s m)).drew) := Lib.hid (HB0.out.only (Only.drew (fun _ => False) _) (fun e => e))
  have H1 : Hid (Two N b mi mp n Di Dp x ao cap l (w.alloc (opB 1 p k s m)).drew) := Lib.hid (h.later oD)
  have HO := Lib.hid oD
  have HP := Lib.hid (H1.out.setP p k s hs hn)
  have HR := Lib.hid hr2
  have HE := Lib.hid he
  obtain ⟨c0, c1, c2, c3, _⟩ := HB0.out.cells
  obtain ⟨d0, d1, d2, d3, _⟩ := HB.out.cells
  clear h hr hr2 he o0 oD
  go_enter Tryd.func14, Tryd.ntmps14
  go_wp2_with fail
  go_region_held3 (fun w' => w'.cell? ⟨w.heap.size, 1, none⟩ = some (.int .i64 p) ∧ w'.cell? ⟨w.heap.size, 2, none⟩ = some (.int .i64 k) ∧ w'.cell? ⟨w.heap.size, 3, none⟩ = some (.string s))
    (first | exact ⟨HB3.out.cells.2.1, HB3.out.cells.2.2.1, HB3.out.cells.2.2.2.1⟩ | exact ⟨HB2.out.cells.2.1, HB2.out.cells.2.2.1, HB2.out.cells.2.2.2.1⟩ | exact ⟨d1, d2, d3⟩ | go_keep)
    (first
    | (go_at_call 24; refine HP.out.mono ?_; rintro e w2 ⟨rfl, h2, o2⟩; have H2 := Lib.hid h2; have O2 := Lib.hid o2; have HB2 := Lib.hid (HB.out.only o2 (H1.out.notP HB.out)); have HX := Lib.hid (h2.setR p k s hs (by omega)); clear h2 o2)
    | (go_at_call 40; refine HX.out.mono ?_; rintro e w3 ⟨rfl, ⟨ao3, cap3, h3⟩, o3⟩; have H3 := Lib.hid h3; have O3 := Lib.hid o3; have HB3 := Lib.hid (HB2.out.only o3 (H2.out.r.notR HB2.out otherOp)); rw [HE.out]; clear h3 o3))
  go_wp2_with fail
  go_ret2
  exact ⟨b, mi, mp, _, _, ao3, cap3, _, rfl, H3.out.more (by omega), HR.out, ((HO.out.mono (fun _ _ e => e.elim)).same (O2.out.mono (fun q _ e => by
    have := H1.out.hi
    have := H1.out.hp
    rcases e with e | e <;> omega))).same (O3.out.mono (fun q _ e => H2.out.r.old q e))⟩
end Go.Proofs.YtodgjkdhkohckaaDoor.opers
