
/- Selection by keys: both tables beside each other; one call of both. -/
import Derived.Test.YthgjedcelcanbaaIdx37
import Derived.Deep.RegionWith
import Derived.Deep.RegionHeld3
namespace Go.Proofs.Ythgjedcelcanbaa.idx
set_option maxRecDepth 100000
open Go.RowKit Go.Proofs.Ythgjedcelcanbaa.own Go.Lib Go.Maps Go.WideMaps
theorem not_ixy {B : Nat} {W : World} {k : Nat} {cs : Array Value} {t : TypeId} (h : W.heap[k]? = some (.cells cs t (0, 0))) (h1 : t ≠ 53) (h2 : t ≠ 60) : ¬ Ixy B W k := by
  rintro ⟨_, ⟨cs', e⟩ | ⟨cs', e⟩ | ⟨es, c, e⟩⟩
  · rw [h] at e
    injection e with e
    injection e with _ e _
    exact h1 e
  · rw [h] at e
    injection e with e
    injection e with _ e _
    exact h2 e
  · rw [h] at e
    cases e
theorem row_kindP {B : Nat} {ao : Option Addr} {cap : Nat} {xs : List Pr} {w : World} (h : RowP B ao cap xs w) {k : Nat} (hk : RowAt ao k) : ∃ cs, w.heap[k]? = some (.cells cs 64 (0, 0)) := by
  obtain ⟨g, hg, e⟩ := hk
  rcases h.2 with ⟨h1, _⟩ | ⟨g', cap', cur, hv, _, hbb, _⟩
  · simp only [Value.slice.injEq] at h1
    rw [h1.1] at hg; cases hg
  · simp only [Value.slice.injEq] at hv
    rw [hv.1] at hg
    cases hg
    exact ⟨cur, by rw [e]; exact hbb⟩
theorem ownsMap_not {H : Type} {k : TypeId} {R : Value → Option (DataW H × List MemPlace)} {m n : Nat} {D : DataW H} {W : World} (h : W.ownsMap Try.prog k R m n D) {cs : Array Value} {t : TypeId} : W.heap[m]? ≠ some (.cells cs t (0, 0)) := fun e => by
  obtain ⟨es, c, hb, _⟩ := h
  rw [hb] at e
  cases e
section
variable {B b : Nat} {M : List Pr} {ao : Option Addr} {cap : Nat} {W W' : World}
/-- What the reference's writers turn is none of the table's. -/
theorem RT.kinds (h : RT B b M ao cap W) : ∀ k, RS b ao k → (∃ cs, W.heap[k]? = some (.cells cs 28 (0, 0))) ∨ (∃ cs, W.heap[k]? = some (.cells cs 64 (0, 0))) := fun k hk => by
  rcases hk with rfl | hk
  · exact .inl ⟨_, h.box⟩
  · exact .inr (row_kindP h.row hk)
theorem RT.base (h : RT B b M ao cap W) (hB : B ≤ b) : ∀ k, RS b ao k → B ≤ k := fun k hk => by
  rcases hk with rfl | ⟨g, hg, e⟩
  · exact hB
  · rw [e]; exact (h.row.head g hg).2.1
theorem RT.ixy {B' : Nat} (h : RT B b M ao cap W) (o : Only (Ixy B' W) W W') : RT B b M ao cap W' :=
  ⟨by rw [o.block b (lt_of_block h.box) (not_ixy h.box (by decide) (by decide))]; exact h.box, h.row.only o (fun g hg => by
    obtain ⟨cs, e⟩ := row_kindP h.row ⟨g, hg, rfl⟩
    exact not_ixy e (by decide) (by decide))⟩
end
theorem TabB.ref {B b N : Nat} {L : List En} {lo hi : Int} {S : Nat → Prop} {W W' : World} (h : TabB B b N L lo hi W) (o : Only S W W') (hS : ∀ k, S k → (∃ cs, W.heap[k]? = some (.cells cs 28 (0, 0))) ∨ (∃ cs, W.heap[k]? = some (.cells cs 64 (0, 0)))) : TabB B b N L lo hi W' := by
  obtain ⟨mr, mi, ks, ao, cap, nr, ni, Dr, Di, h1, h2⟩ := h
  have hno : ∀ {k : Nat} {cs : Array Value} {t : TypeId}, W.heap[k]? = some (.cells cs t (0, 0)) → t ≠ 28 → t ≠ 64 → ¬ S k := fun {k cs t} e n1 n2 hk => by
    rcases hS k hk with ⟨cs', e'⟩ | ⟨cs', e'⟩
    · rw [e] at e'
      injection e' with e'
      injection e' with _ e' _
      exact n1 e'
    · rw [e] at e'
      injection e' with e'
      injection e' with _ e' _
      exact n2 e'
  have hnm : ∀ {H : Type} {k : TypeId} {R : Value → Option (DataW H × List MemPlace)} {m n : Nat} {D : DataW H}, W.ownsMap Try.prog k R m n D → ¬ S m := fun h hk => by
    rcases hS _ hk with ⟨cs', e'⟩ | ⟨cs', e'⟩
    · exact ownsMap_not h e'
    · exact ownsMap_not h e'
  have hrow : ∀ {q : Option Addr} {cq : Nat} {xs : List En}, RowE q cq xs W → RowE q cq xs W' := fun hq => hq.only o (fun g hg => by
    obtain ⟨cs, e⟩ := row_kind hq ⟨g, hg, rfl⟩
    exact hno e (by decide) (by decide))
  exact ⟨mr, mi, ks, ao, cap, nr, ni, Dr, Di, ⟨by rw [o.block b (lt_of_block h1.box) (hno h1.box (by decide) (by decide))]; exact h1.box, hrow h1.row, ownsMap_only h1.idm o (hnm h1.idm), h1.idl, ownsMap_only h1.rkm o (hnm h1.rkm), h1.rkl, h1.ksok, fun p hp => ⟨hrow (h1.rows p hp).1, (h1.rows p hp).2⟩, h1.cover, h1.ap1, h1.ap2, h1.apm, h1.pl, h1.alone, h1.keys, h1.few, h1.nums⟩, h2⟩
/-- The program's table and the reference's, both made since block B; what one holds the other holds. -/
structure Two (B b x N : Nat) (s : St) (M : List Pr) (W : World) : Prop where
  t : TabS B b N s W
  r : ∃ ao cap, RT B x M ao cap W
  ge : B ≤ x
  rl : Rl s M
section
variable {B b x N : Nat} {s : St} {M : List Pr} {w W W' : World}
theorem Two.later (h : Two B b x N s M W) (o : Only (fun _ => False) W W') : Two B b x N s M W' := by
  obtain ⟨ao, cap, hr⟩ := h.r
  exact ⟨TabB.later h.t o, ⟨ao, cap, hr.later o⟩, h.ge, h.rl⟩
theorem Two.len (h : Two B b x N s M W) : M.length ≤ 4096 := by rw [h.rl.len]; exact h.t.few
theorem Two.more (h : Two B b x N s M W) (hN : N + 1 ≤ 1000000) : Two B b x (N + 1) s M W := ⟨h.t.more hN, h.r, h.ge, h.rl⟩
/-- The cells of a call of the law. -/
def SixC (g : Nat) (kd i : Int) (k : Ky) (f : Bool) (W : World) : Prop := W.cell? ⟨g, 0, none⟩ = some (.int .i64 kd) ∧ W.cell? ⟨g, 1, none⟩ = some (.int .i64 i) ∧ W.cell? ⟨g, 2, none⟩ = some (.int .i64 k.k) ∧ W.cell? ⟨g, 3, none⟩ = some (.string k.s) ∧ W.cell? ⟨g, 4, none⟩ = some (.int .i64 k.n) ∧ W.cell? ⟨g, 5, none⟩ = some (.bool f)
def Six' (g : Nat) (kd i : Int) (k : Ky) (f : Bool) (w : World) : Prop := w.heap[g]? = some (.cells #[.int .i64 kd, .int .i64 i, .int .i64 k.k, .string k.s, .int .i64 k.n, .bool f] 34 (0, 0))
theorem Six'.cells {g : Nat} {kd i : Int} {k : Ky} {f : Bool} {W : World} (h : Six' g kd i k f W) : SixC g kd i k f W := by
  refine ⟨?_, ?_, ?_, ?_, ?_, ?_⟩ <;> (rw [cell_of_blk h]; rfl)
theorem Six'.only {S : Nat → Prop} {g : Nat} {kd i : Int} {k : Ky} {f : Bool} {W W' : World} (h : Six' g kd i k f W) (o : Only S W W') (hS : ¬ S g) : Six' g kd i k f W' := by
  unfold Six' at *
  rw [o.block g (lt_of_block h) hS]
  exact h
theorem Six'.ixy {g : Nat} {kd i : Int} {k : Ky} {f : Bool} {W W' : World} (h : Six' g kd i k f W) (o : Only (Ixy B W) W W') : Six' g kd i k f W' := h.only o (not_ixy h (by decide) (by decide))
theorem Six'.ref {y : Nat} {ao : Option Addr} {cap : Nat} {g : Nat} {kd i : Int} {k : Ky} {f : Bool} {W W' : World} (h : Six' g kd i k f W) (hr : RT B y M ao cap W) (o : Only (RS y ao) W W') : Six' g kd i k f W' := h.only o (fun e => by
  unfold Six' at h
  rcases hr.kinds g e with ⟨cs, e⟩ | ⟨cs, e⟩
  · rw [h] at e
    injection e with e
    injection e with _ e _
    exact absurd e (by decide)
  · rw [h] at e
    injection e with e
    injection e with _ e _
    exact absurd e (by decide))
/-- Both after Add. -/
theorem Two.addP (h : Two B b x N s M W) (hN : N + 1 ≤ 1000000) (i : Int) (hi : Fit i) (k : Ky) (hk : k.Ok) (f : Bool) :
    Calls Try.prog 14 #[.pointer (some ⟨b, 0, none⟩), .int .i64 i, kyV k, .bool f] W fun e w' => e = .returned (.int .i64 (addR M i k f).1) ∧ TabS B b (N + 1) (addS s i k f).2 w' ∧ (∃ ao cap, RT B x M ao cap w') ∧ Only (Ixy B W) W w' := by
  obtain ⟨ao, cap, hr⟩ := h.r
  refine (add_all h.t hN i hi k hk f).mono ?_
  rintro e w1 ⟨rfl, ht, ho⟩
  exact ⟨by rw [(h.rl.add i k f).1], ht, ⟨ao, cap, hr.ixy ho⟩, ho⟩
theorem Two.dropP (h : Two B b x N s M W) (hN : N + 1 ≤ 1000000) (i : Int) (hi : Fit i) :
    Calls Try.prog 13 #[.pointer (some ⟨b, 0, none⟩), .int .i64 i] W fun e w' => e = .returned (.int .i64 (dropR M i).1) ∧ TabS B b (N + 1) (dropS s i).2 w' ∧ (∃ ao cap, RT B x M ao cap w') ∧ Only (Ixy B W) W w' := by
  obtain ⟨ao, cap, hr⟩ := h.r
  refine (drop_all h.t hN i hi).mono ?_
  rintro e w1 ⟨rfl, ht, ho⟩
  exact ⟨by rw [(h.rl.drop h.t.alone i).1], ht, ⟨ao, cap, hr.ixy ho⟩, ho⟩
end
section
variable {B x : Nat} {M : List Pr} {W W' : World}
theorem radd_any {ao : Option Addr} {cap : Nat} (h : RT B x M ao cap W) (hB : B ≤ x) (hn : M.length ≤ 100000) (i : Int) (k : Ky) (f : Bool) :
    Calls Try.prog 20 #[.pointer (some ⟨x, 0, none⟩), .int .i64 i, kyV k, .bool f] W fun e w' => e = .returned (.int .i64 (addR M i k f).1) ∧ (∃ ao' cap', RT B x (addR M i k f).2 ao' cap' w') ∧ Only (RS x ao) W w' := by
  cases ha : atF i M with
  | some j =>
    have he : addR M i k f = (5, M) := by unfold addR; rw [ha]; rfl
    rw [he]
    refine (radd_there h i k f hn ha).mono ?_
    rintro e w1 ⟨rfl, ho⟩
    exact ⟨rfl, ⟨ao, cap, h.later ho⟩, ho.mono (fun _ _ e => e.elim)⟩
  | none =>
    by_cases hl : 4096 ≤ M.length
    · have he : addR M i k f = (2, M) := by unfold addR; rw [ha, if_neg (by simp), if_pos hl]
      rw [he]
      refine (radd_full h i k f hn ha hl).mono ?_
      rintro e w1 ⟨rfl, ho⟩
      exact ⟨rfl, ⟨ao, cap, h.later ho⟩, ho.mono (fun _ _ e => e.elim)⟩
    · have he : addR M i k f = (0, if f = true then ⟨i, k⟩ :: M else M ++ [⟨i, k⟩]) := by unfold addR; rw [ha, if_neg (by simp), if_neg hl]
      rw [he]
      cases f
      · refine (radd_back h hB i k hn ha (by omega)).mono ?_
        rintro e w1 ⟨rfl, ⟨a', c', hr, _⟩, ho⟩
        exact ⟨rfl, ⟨a', c', hr⟩, ho⟩
      · refine (radd_front h hB i k hn ha (by omega)).mono ?_
        rintro e w1 ⟨rfl, ⟨a', c', hr, _⟩, ho⟩
        exact ⟨rfl, ⟨a', c', hr⟩, ho⟩
theorem rdrop_any {ao : Option Addr} {cap : Nat} (h : RT B x M ao cap W) (hB : B ≤ x) (hn : M.length ≤ 100000) (i : Int) :
    Calls Try.prog 21 #[.pointer (some ⟨x, 0, none⟩), .int .i64 i] W fun e w' => e = .returned (.int .i64 (dropR M i).1) ∧ (∃ ao' cap', RT B x (dropR M i).2 ao' cap' w') ∧ Only (RS x ao) W w' := by
  cases ha : atF i M with
  | none =>
    have he : dropR M i = (4, M) := by unfold dropR; rw [ha]
    rw [he]
    refine (rdrop_no h i hn ha).mono ?_
    rintro e w1 ⟨rfl, ho⟩
    exact ⟨rfl, ⟨ao, cap, h.later ho⟩, ho.mono (fun _ _ e => e.elim)⟩
  | some j =>
    have he : dropR M i = (0, M.take j ++ M.drop (j + 1)) := by unfold dropR; rw [ha]
    rw [he]
    refine (rdrop_yes h hB i hn ha).mono ?_
    rintro e w1 ⟨rfl, ⟨a', c', hr, _⟩, ho⟩
    exact ⟨rfl, ⟨a', c', hr⟩, ho⟩
end
/-- What one call of both leaves. -/
def DoOut (B b x N : Nat) (W W' : World) (e : Ending) : Prop := e = .returned (.bool true) ∧ (∃ s M, Two B b x (N + 1) s M W') ∧ Only (fun q => B ≤ q) W W'
abbrev sixO (kd i : Int) (k : Ky) (f : Bool) : Obj := .cells #[.int .i64 kd, .int .i64 i, .int .i64 k.k, .string k.s, .int .i64 k.n, .bool f] 34
abbrev sixV (kd i : Int) (k : Ky) (f : Bool) : Value := .agg #[.int .i64 kd, .int .i64 i, .int .i64 k.k, .string k.s, .int .i64 k.n, .bool f]
section
variable {B b x N : Nat} {s : St} {M : List Pr} {w : World}
set_option maxHeartbeats 8000000 in
theorem do_add (h : Two B b x N s M w) (hN : N + 1 ≤ 1000000) (i : Int) (hi : Fit i) (k : Ky) (hk : k.Ok) (f : Bool) :
    Calls Try.prog 8 #[.pointer (some ⟨b, 0, none⟩), .pointer (some ⟨x, 0, none⟩), sixV 1 i k f] w (fun e w' => DoOut B b x N w w' e) := by
  have o0 : Only (fun _ => False) w (w.alloc (sixO 1 i k f)) := Only.alloc _ _ _
  have oD : Only (fun _ => False) w (w.alloc (sixO 1 i k f)).drew := o0.same (Only.drew _ _)
  have HB0 : Hid (Six' w.heap.size 1 i k f (w.alloc (sixO 1 i k f))) := Lib.hid (heap_alloc_new _ _)
  have HB : Hid (Six' w.heap.size 1 i k f (w.alloc (sixO 1 i k f)).drew) := Lib.hid (HB0.out.only (Only.drew (fun _ => False) _) (fun e => e))
  have H1 : Hid (Two B b x N s M (w.alloc (sixO 1 i k f)).drew) := Lib.hid (h.later oD)
  have HO := Lib.hid oD
  have HP := Lib.hid (H1.out.addP hN i hi k hk f)
  have HRL := Lib.hid (h.rl.add i k f).2
  have HGE := Lib.hid h.ge
  have HML := Lib.hid h.len
  obtain ⟨c0, c1, c2, c3, c4, c5⟩ := HB0.out.cells
  obtain ⟨d0, d1, d2, d3, d4, d5⟩ := HB.out.cells
  generalize hq : (addR M i k f).1 = q at *
  have HQ := Lib.hid hq
  clear h o0 oD hq
  go_enter Try.func8, Try.ntmps8
  go_wp2_with fail
  go_region_held3 (fun W => W.cell? ⟨w.heap.size, 1, none⟩ = some (.int .i64 i) ∧ W.cell? ⟨w.heap.size, 2, none⟩ = some (.int .i64 k.k) ∧ W.cell? ⟨w.heap.size, 3, none⟩ = some (.string k.s) ∧ W.cell? ⟨w.heap.size, 4, none⟩ = some (.int .i64 k.n) ∧ W.cell? ⟨w.heap.size, 5, none⟩ = some (.bool f))
    (first | exact HB3.out.cells.2 | exact HB2.out.cells.2 | exact ⟨d1, d2, d3, d4, d5⟩ | go_keep)
    (first
    | (go_at_call 14; refine HP.out.mono ?_; rintro e w2 ⟨rfl, ht, ⟨ao, cap, hr⟩, o2⟩; have HT := Lib.hid ht; have HR := Lib.hid hr; have O2 := Lib.hid o2; have HB2 := Lib.hid (HB.out.ixy o2); have HX := Lib.hid (radd_any hr HGE.out (by have := HML.out; omega) i k f); clear ht hr o2)
    | (go_at_call 20; refine HX.out.mono ?_; rintro e w3 ⟨rfl, ⟨ao', cap', hr⟩, o3⟩; have HR3 := Lib.hid hr; have O3 := Lib.hid o3; have HB3 := Lib.hid (HB2.out.ref HR.out o3); rw [HQ.out]; clear hr o3))
  go_wp2_with fail
  go_ret
  exact ⟨by first | rfl | simp, ⟨_, _, TabB.ref HT.out O3.out HR.out.kinds, ⟨ao', cap', HR3.out⟩, HGE.out, HRL.out⟩, ((HO.out.mono (fun _ _ e => e.elim)).same (O2.out.mono (fun _ _ e => e.1))).same (O3.out.mono (fun q _ e => HR.out.base HGE.out q e))⟩
end
end Go.Proofs.Ythgjedcelcanbaa.idx
