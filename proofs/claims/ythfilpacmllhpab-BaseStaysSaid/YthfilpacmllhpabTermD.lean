

/- Terms: what Replace puts in the places of variables, and what follows: 7 texts in one. -/
import Derived.Test.YthfilpacmllhpabTermB
import Derived.Deep.RegionWith
import Derived.Test.YthfilpacmllhpabTermC
import Derived.Outline
import Derived.Deep.LoopGhost
/- Terms: what Replace puts in the places of variables. -/
namespace Go.Proofs.Ythfilpacmllhpab.terms
set_option maxRecDepth 100000
section
open Go.RowKit Go.Proofs.Ythfilpacmllhpab.own Go.Maps
def repSt (with_ : List T) (st : Int) (n : Int) : Int := st - ((with_.getD n.toNat default).size - 1)
def repNxt (with_ : List T) (st : Int) (n : Int) : Int := if with_.length ≤ n.toNat ∨ st < 0 then st else repSt with_ st n
def repOut (with_ : List T) (st : Int) (n : Int) : T := if with_.length ≤ n.toNat ∨ st < 0 then .mk 1 n ⟨#[]⟩ [] else if repSt with_ st n < 0 then .mk 1 n ⟨#[]⟩ [] else with_.getD n.toNat default
/-- What Replace keeps: how much is left, at lb; the terms, at wb. -/
structure RepI (with_ : List T) (wo : Option Addr) (wc lb wb : Nat) (st : Int) (S : Nat → Prop) (w : World) : Prop where
  left : w.heap[lb]? = some (.cells #[.int .i64 st] 3 (0, 0))
  box : w.heap[wb]? = some (.cells #[.slice wo with_.length wc] 29 (0, 0))
  lies : Row (· < lb) w wo with_
  own : ∀ k, S k ↔ k = lb
  lt : wb < lb
  low : -4096 ≤ st
  high : st ≤ 4096
theorem RepI.only {with_ : List T} {wo : Option Addr} {wc lb wb : Nat} {st : Int} {S S'' : Nat → Prop} {w w' : World} (h : RepI with_ wo wc lb wb st S w) (ho : Only S'' w w') (hS : ∀ k, S k → ¬ S'' k) (hB : ∀ k, S'' k → lb ≤ k) : RepI with_ wo wc lb wb st S w' := by
  have hlb := lt_of_block h.left
  have hlt := h.lt
  refine { h with left := ?_, box := ?_, lies := ?_ }
  · rw [ho.block lb hlb (hS lb ((h.own lb).2 rfl))]; exact h.left
  · rw [ho.block wb (by omega) (fun e => by have := hB wb e; omega)]; exact h.box
  · exact h.lies.only ho (fun k hk => by omega) (fun k hk e => by have := hB k e; omega)
theorem RepI.put {with_ : List T} {wo : Option Addr} {wc lb wb : Nat} {st st' : Int} {S : Nat → Prop} {w : World} (h : RepI with_ wo wc lb wb st S w) (h1 : -4096 ≤ st') (h2 : st' ≤ 4096) : RepI with_ wo wc lb wb st' S (w.setCell ⟨lb, 0, none⟩ (.int .i64 st')) ∧ Only S w (w.setCell ⟨lb, 0, none⟩ (.int .i64 st')) := by
  have o1 : Only (· = lb) w (w.setCell ⟨lb, 0, none⟩ (.int .i64 st')) := Only.setCell (S := (· = lb)) _ (p := ⟨lb, 0, none⟩) rfl _
  have hlb := lt_of_block h.left
  have hlt := h.lt
  refine ⟨⟨?_, ?_, ?_, h.own, h.lt, h1, h2⟩, o1.mono (fun k _ e => (h.own k).2 e)⟩
  · have := blk_set h.left 0 (.int .i64 st')
    simpa using this
  · rw [o1.block wb (by omega) (by omega)]; exact h.box
  · exact h.lies.only o1 (fun k hk => by omega) (fun k hk e => by omega)
end
end Go.Proofs.Ythfilpacmllhpab.terms
/- Terms: Replace. -/
namespace Go.Proofs.Ythfilpacmllhpab.terms
set_option maxRecDepth 100000
section
open Go.RowKit Go.Proofs.Ythfilpacmllhpab.own Go.Maps
def repF (with_ : List T) (t : T) : T × Int := exF (repOut with_) (repNxt with_) t (4096 - t.size)
theorem rep_world (w : World) (t : T) (ao : Option Addr) (cap : Nat) (wo : Option Addr) (m wc : Nat) :
    ((((w.alloc (.cells #[.int .i64 t.k, .int .i64 t.n, .string t.s, .slice ao t.l.length cap] 31)).alloc (.cells #[.slice wo m wc] 29)).alloc (.cells #[.int .i64 0, .int .i64 0, .string ⟨#[]⟩, .slice none 0 0] 31)).alloc (.cells #[.int .i64 t.k, .int .i64 t.n, .string t.s, .slice ao t.l.length cap] 31)).heap[w.heap.size + 1 + 1 + 1]? = some (.cells #[.int .i64 t.k, .int .i64 t.n, .string t.s, .slice ao t.l.length cap] 31 (0, 0)) ∧ Only (fun _ => False) w ((((w.alloc (.cells #[.int .i64 t.k, .int .i64 t.n, .string t.s, .slice ao t.l.length cap] 31)).alloc (.cells #[.slice wo m wc] 29)).alloc (.cells #[.int .i64 0, .int .i64 0, .string ⟨#[]⟩, .slice none 0 0] 31)).alloc (.cells #[.int .i64 t.k, .int .i64 t.n, .string t.s, .slice ao t.l.length cap] 31)) ∧ Quad w.heap.size (.int .i64 t.k) (.int .i64 t.n) (.string t.s) (.slice ao t.l.length cap) ((((w.alloc (.cells #[.int .i64 t.k, .int .i64 t.n, .string t.s, .slice ao t.l.length cap] 31)).alloc (.cells #[.slice wo m wc] 29)).alloc (.cells #[.int .i64 0, .int .i64 0, .string ⟨#[]⟩, .slice none 0 0] 31)).alloc (.cells #[.int .i64 t.k, .int .i64 t.n, .string t.s, .slice ao t.l.length cap] 31)) ∧ ((((w.alloc (.cells #[.int .i64 t.k, .int .i64 t.n, .string t.s, .slice ao t.l.length cap] 31)).alloc (.cells #[.slice wo m wc] 29)).alloc (.cells #[.int .i64 0, .int .i64 0, .string ⟨#[]⟩, .slice none 0 0] 31)).alloc (.cells #[.int .i64 t.k, .int .i64 t.n, .string t.s, .slice ao t.l.length cap] 31)).heap[w.heap.size + 1]? = some (.cells #[.slice wo m wc] 29 (0, 0)) ∧ Quad (w.heap.size + 1 + 1) (.int .i64 0) (.int .i64 0) (.string ⟨#[]⟩) (.slice none 0 0) ((((w.alloc (.cells #[.int .i64 t.k, .int .i64 t.n, .string t.s, .slice ao t.l.length cap] 31)).alloc (.cells #[.slice wo m wc] 29)).alloc (.cells #[.int .i64 0, .int .i64 0, .string ⟨#[]⟩, .slice none 0 0] 31)).alloc (.cells #[.int .i64 t.k, .int .i64 t.n, .string t.s, .slice ao t.l.length cap] 31)) ∧ ((((w.alloc (.cells #[.int .i64 t.k, .int .i64 t.n, .string t.s, .slice ao t.l.length cap] 31)).alloc (.cells #[.slice wo m wc] 29)).alloc (.cells #[.int .i64 0, .int .i64 0, .string ⟨#[]⟩, .slice none 0 0] 31)).alloc (.cells #[.int .i64 t.k, .int .i64 t.n, .string t.s, .slice ao t.l.length cap] 31)).heap.size = w.heap.size + 4 := by
  have h1 := heap_alloc_new w (.cells #[.int .i64 t.k, .int .i64 t.n, .string t.s, .slice ao t.l.length cap] 31)
  have h2 := heap_alloc_new (w.alloc (.cells #[.int .i64 t.k, .int .i64 t.n, .string t.s, .slice ao t.l.length cap] 31)) (.cells #[.slice wo m wc] 29)
  have h3 := heap_alloc_new ((w.alloc (.cells #[.int .i64 t.k, .int .i64 t.n, .string t.s, .slice ao t.l.length cap] 31)).alloc (.cells #[.slice wo m wc] 29)) (.cells #[.int .i64 0, .int .i64 0, .string ⟨#[]⟩, .slice none 0 0] 31)
  have h4 := heap_alloc_new (((w.alloc (.cells #[.int .i64 t.k, .int .i64 t.n, .string t.s, .slice ao t.l.length cap] 31)).alloc (.cells #[.slice wo m wc] 29)).alloc (.cells #[.int .i64 0, .int .i64 0, .string ⟨#[]⟩, .slice none 0 0] 31)) (.cells #[.int .i64 t.k, .int .i64 t.n, .string t.s, .slice ao t.l.length cap] 31)
  have o2 : Only (fun _ => False) (w.alloc (.cells #[.int .i64 t.k, .int .i64 t.n, .string t.s, .slice ao t.l.length cap] 31)) ((w.alloc (.cells #[.int .i64 t.k, .int .i64 t.n, .string t.s, .slice ao t.l.length cap] 31)).alloc (.cells #[.slice wo m wc] 29)) := Only.alloc _ _ _
  have o3 : Only (fun _ => False) ((w.alloc (.cells #[.int .i64 t.k, .int .i64 t.n, .string t.s, .slice ao t.l.length cap] 31)).alloc (.cells #[.slice wo m wc] 29)) (((w.alloc (.cells #[.int .i64 t.k, .int .i64 t.n, .string t.s, .slice ao t.l.length cap] 31)).alloc (.cells #[.slice wo m wc] 29)).alloc (.cells #[.int .i64 0, .int .i64 0, .string ⟨#[]⟩, .slice none 0 0] 31)) := Only.alloc _ _ _
  have o4 : Only (fun _ => False) (((w.alloc (.cells #[.int .i64 t.k, .int .i64 t.n, .string t.s, .slice ao t.l.length cap] 31)).alloc (.cells #[.slice wo m wc] 29)).alloc (.cells #[.int .i64 0, .int .i64 0, .string ⟨#[]⟩, .slice none 0 0] 31)) ((((w.alloc (.cells #[.int .i64 t.k, .int .i64 t.n, .string t.s, .slice ao t.l.length cap] 31)).alloc (.cells #[.slice wo m wc] 29)).alloc (.cells #[.int .i64 0, .int .i64 0, .string ⟨#[]⟩, .slice none 0 0] 31)).alloc (.cells #[.int .i64 t.k, .int .i64 t.n, .string t.s, .slice ao t.l.length cap] 31)) := Only.alloc _ _ _
  refine ⟨by simpa using h4, (((Only.alloc _ _ _).same o2).same o3).same o4, blk_later (blk_later (blk_later h1 o2) o3) o4, ?_, ?_, by simp⟩
  · have := blk_later (blk_later h2 o3) o4
    simpa using this
  · have := blk_later h3 o4
    unfold Quad
    simpa using this
end
end Go.Proofs.Ythfilpacmllhpab.terms
/- Terms: lists of lists under way; do they fit? -/
namespace Go.Proofs.Ythfilpacmllhpab.terms
set_option maxRecDepth 100000
section
open Go.RowKit Go.Proofs.Ythfilpacmllhpab.own Go.Maps
/-- A list of terms, and where it lies. -/
structure Ls where
  l : List T
  ao : Option Addr
  cap : Nat
def encL (x : Ls) : List Value := [.slice x.ao x.l.length x.cap]
theorem liesL : Go.Proofs.Ythfilpacmllhpab.own.Lies encL 1 := ⟨fun _ => rfl, by
  intro x u hu
  simp [encL] at hu
  subst hu
  rfl, by omega⟩
theorem infoL : (Try.prog.info? 29).map (fun i => (i.zero, i.size, i.bytes)) = some (some (.slice none 0 0), 1, 24) := by kernel_rfl
abbrev LsP (B : Nat) (ao : Option Addr) (cap : Nat) (xs : List Ls) (w : World) : Prop := RowOf encL 1 29 B ao cap xs w
theorem LsP.one {B g : Nat} {x : Ls} {w : World} (hB : B ≤ g) (h : w.heap[g]? = some (.cells #[.slice x.ao x.l.length x.cap] 29 (0, 0))) : LsP B (some ⟨g, 0, none⟩) 1 [x] w :=
  ⟨rfl, .inr ⟨g, 1, _, rfl, hB, h, Nat.le_refl _, by unfold maxLen; omega, rfl, rfl⟩⟩
/-- How many parts stand below a list's own. -/
def bl (l : List T) : Nat := (l.map (fun t => sizes t.l)).sum
theorem sizes_bl (l : List T) : sizes l = l.length + bl l := by
  induction l with
  | nil => simp [sizes, bl]
  | cons x r ih =>
    have hx : x.size = 1 + sizes x.l := x.size_eq
    simp only [sizes, bl, List.map_cons, List.sum_cons, List.length_cons] at ih ⊢
    omega
theorem bl_append (a b : List T) : bl (a ++ b) = bl a + bl b := by simp [bl]
theorem bl_step {l : List T} {i : Nat} {x : T} (h : l[i]? = some x) : bl (l.take (i + 1)) = bl (l.take i) + sizes x.l := by
  rw [take_snoc h, bl_append]
  simp [bl]
def wt (xs : List Ls) : Nat := (xs.map (fun x => 1 + sizes x.l)).sum
def bls (xs : List Ls) : Nat := (xs.map (fun x => bl x.l)).sum
theorem wt_append (a b : List Ls) : wt (a ++ b) = wt a + wt b := by simp [wt]
theorem bls_append (a b : List Ls) : bls (a ++ b) = bls a + bls b := by simp [bls]
theorem wt_one (x : Ls) : wt [x] = 1 + sizes x.l := by simp [wt]
theorem bls_one (x : Ls) : bls [x] = bl x.l := by simp [bls]
theorem wt_len (xs : List Ls) : xs.length ≤ wt xs := by
  induction xs with
  | nil => simp
  | cons x r ih =>
    have : wt (x :: r) = (1 + sizes x.l) + wt r := by simp [wt]
    rw [this, List.length_cons]
    omega
/-- Lists under way: the row of them, each lying where the first world has it. -/
structure Ways (w : World) (B : Nat) (so : Option Addr) (sc : Nat) (xs : List Ls) (wr : World) : Prop where
  row : LsP B so sc xs wr
  own : Only (fun _ => False) w wr
  lies : ∀ x ∈ xs, Lies w x.ao x.l ∧ x.l.length ≤ maxLen
theorem Ways.later {w : World} {B : Nat} {so : Option Addr} {sc : Nat} {xs : List Ls} {wr w' : World} (h : Ways w B so sc xs wr) (ho : Only (fun _ => False) wr w') : Ways w B so sc xs w' :=
  ⟨h.row.only ho (fun _ _ e => e), h.own.same ho, h.lies⟩
theorem Ways.pop {w : World} {B : Nat} {so : Option Addr} {sc m : Nat} {xs : List Ls} {wr : World} (h : Ways w B so sc xs wr) (hm : xs.length = m + 1) : ∃ ys x, xs = ys ++ [x] ∧ ys.length = m ∧ xs[m]? = some x ∧ Ways w B so sc ys wr ∧ Lies w x.ao x.l ∧ x.l.length ≤ maxLen := by
  obtain ⟨x, hx⟩ : ∃ x, xs[m]? = some x := ⟨_, List.getElem?_eq_getElem (by omega)⟩
  have e : xs = xs.take m ++ [x] := by
    have := take_snoc hx
    rw [← this, ← hm, List.take_length]
  have hr := h.row.take liesL m (by omega)
  refine ⟨xs.take m, x, e, by rw [List.length_take]; omega, hx, ⟨hr, h.own, fun y hy => h.lies y (List.mem_of_mem_take hy)⟩, (h.lies x (List.mem_of_getElem? hx))⟩
theorem sizes_take_le (l : List T) (j : Nat) : sizes (l.take j) ≤ sizes l := by
  have e : sizes l = sizes (l.take j) + sizes (l.drop j) := by rw [← sizes_append, List.take_append_drop]
  omega
set_option maxRecDepth 100000 in
set_option maxHeartbeats 4000000 in
theorem fits_any (l : List T) (w : World) (ao : Option Addr) (cap : Nat) (hl : Lies w ao l) (hlen : l.length ≤ maxLen) (hz : sizes l ≤ 1000000) :
    Calls Try.prog 86 #[.slice ao l.length cap] w fun e w' => e = .returned (.bool true) ∧ Only (fun _ => False) w w' := by
  obtain ⟨i0, hi, hz0, hz1, hz2⟩ := info_parts infoL
  have hsb := sizes_bl l
  have HL := Lib.hid hl
  have HLEN := Lib.hid hlen
  have hll : l.length ≤ 1000000 := by omega
  have hwr : IntKind.i64.wrap (39000000 - (l.length : Int)) = 39000000 - (l.length : Int) := IntWalk.i64_in _ (by omega)
  have HZ : Hid (sizes l = l.length + bl l ∧ sizes l ≤ 1000000) := Lib.hid ⟨hsb, hz⟩
  clear hl hlen hz hsb
  go_enter Try.func86, Try.ntmps86
  go_wp2_with fail
  have HW0 : Hid (Ways w w.heap.size (some ⟨w.heap.size, 0, none⟩) 1 [⟨l, ao, cap⟩] (w.alloc (.cells #[.slice ao l.length cap] 29))) := Lib.hid ⟨LsP.one (Nat.le_refl _) (heap_alloc_new w _), Only.alloc _ _ _, fun x hx => by rw [List.mem_singleton.1 hx]; exact ⟨HL.out, HLEN.out⟩⟩
  go_loopg [3, 4] (1 + sizes l) (fun gk v3 v4 wr => ∃ (c m : Nat) (so : Option Addr) (sc : Nat) (xs : List Ls), v3 = .int .i64 (39000000 - (c : Int)) ∧ v4 = .slice so m sc ∧ Hid (xs.length = m ∧ wt xs ≤ gk ∧ c + bls xs ≤ sizes l ∧ gk ≤ 1 + sizes l ∧ Ways w w.heap.size so sc xs wr))
  case atStart => exact ⟨l.length, 1, _, 1, _, rfl, rfl, Lib.hid ⟨rfl, by rw [wt_one]; exact Nat.le_refl _, by rw [bls_one]; have := HZ.out; simp only; omega, Nat.le_refl _, HW0.out⟩⟩
  case round =>
    obtain ⟨c, m, so, sc, xs, rfl, rfl, hI⟩ := hrel
    clear HW0 hwr
    have hc6 : c ≤ 1000000 := by have := hI.out.2.2.1; have := HZ.out; omega
    have hge : (decide ((0 : Int) ≤ 39000000 - (c : Int))) = true := decide_eq_true (by omega)
    have hge2 : (c : Int) ≤ 39000000 := by omega
    cases m with
    | zero =>
      go_wp2_with fail
      go_ret
      exact ⟨rfl, hI.out.2.2.2.2.own⟩
    | succ m =>
      obtain ⟨ys, x, hxs, hys, hx, hW, hxl, hxlen⟩ := hI.out.2.2.2.2.pop hI.out.1
      obtain ⟨g, rfl, _, hcell⟩ := hI.out.2.2.2.2.row.at liesL m x hx
      have r0 := (hcell 0 (by omega)).1
      simp only [encL, List.getElem?_cons_zero, Nat.mul_one, Nat.add_zero] at r0
      have HXS := Lib.hid hxs
      have HYS := Lib.hid hys
      have HW := Lib.hid hW
      have HXL := Lib.hid hxl
      have HXLEN := Lib.hid hxlen
      have hm0 : (0 : Int) < ((m + 1 : Nat) : Int) := by omega
      have hcap := hI.out.2.2.2.2.row.cap_ge
      rw [hI.out.1] at hcap
      have hcap1 := hcap.1
      have hcap2 := hcap.2
      unfold maxLen at hcap2
      have hw1 : IntKind.i64.wrap (((m + 1 : Nat) : Int) - 1) = (m : Int) := by rw [show ((m + 1 : Nat) : Int) - 1 = (m : Int) by omega]; exact IntWalk.i64_in _ (by omega)
      clear hxs hys hx hW hxl hxlen hcap hcell
      go_wp2_with fail
      have HIN0 : Hid (ys.length = m ∧ wt ys ≤ wt ys + sizes (x.l.take 0) ∧ c + bls ys + bl x.l ≤ sizes l + bl (x.l.take 0) ∧ Ways w w.heap.size (some ⟨g, 0, none⟩) sc ys wr) := Lib.hid ⟨HYS.out, by omega, by have h1 := hI.out.2.2.1; rw [HXS.out, bls_append, bls_one] at h1; omega, HW.out⟩
      have HWT : Hid (wt ys + 1 + sizes x.l ≤ gk ∧ gk ≤ 1 + sizes l ∧ sizes l ≤ 1000000) := Lib.hid ⟨by have h1 := hI.out.2.1; rw [HXS.out, wt_append, wt_one] at h1; omega, hI.out.2.2.2.1, HZ.out.2⟩
      have HBL : Hid (sizes x.l = x.l.length + bl x.l) := Lib.hid (sizes_bl x.l)
      clear r0 hw1 hcap1 hcap2 hm0 hge hge2 hc6
      have hxlen2 := HXLEN.out
      unfold maxLen at hxlen2
      go_loopw [3, 4, 33] (fun v3 v4 i wr2 => ∃ (j c' m' : Nat) (so' : Option Addr) (sc' : Nat) (zs : List Ls), i = .int .i64 j ∧ j ≤ x.l.length ∧ v3 = .int .i64 (39000000 - (c' : Int)) ∧ v4 = .slice so' m' sc' ∧ Hid (zs.length = m' ∧ wt zs ≤ wt ys + sizes (x.l.take j) ∧ c' + bls zs + bl x.l ≤ sizes l + bl (x.l.take j) ∧ Ways w w.heap.size so' sc' zs wr2)) (fun _ _ i _ => x.l.length - (intOf i).toNat)
      case atStart => exact ⟨0, c, m, _, sc, ys, rfl, by omega, rfl, rfl, HIN0⟩
      case round =>
        obtain ⟨j, c', m', so', sc', zs, rfl, hj, rfl, rfl, hJ⟩ := hrel
        clear HIN0
        by_cases hlt : j < x.l.length
        · obtain ⟨y, hy⟩ : ∃ y, x.l[j]? = some y := ⟨_, List.getElem?_eq_getElem hlt⟩
          obtain ⟨b, off, yo, yc, hxo, hb, c0, c1, c2, c3, hysane, hyl⟩ := (HXL.out.later hJ.out.2.2.2.own).at hy
          have hyl0 : Lies w yo y.l := by
            obtain ⟨b', off', yo', yc', hxo', hb', d0, d1, d2, d3, _, hyl'⟩ := HXL.out.at hy
            rw [hxo] at hxo'
            cases hxo'
            have e3 := (hJ.out.2.2.2.own.cell (p := ⟨b, off + j * 4 + 3, none⟩) hb' (fun e => e)).trans d3
            rw [c3] at e3
            simp only [Option.some.injEq, Value.slice.injEq] at e3
            rw [e3.1]
            exact hyl'
          rw [hxo]
          have HYS2 := Lib.hid hysane
          have HYL := Lib.hid hyl0
          have HST := Lib.hid (show sizes (x.l.take (j + 1)) = sizes (x.l.take j) + y.size ∧ bl (x.l.take (j + 1)) = bl (x.l.take j) + sizes y.l ∧ y.size = 1 + sizes y.l ∧ sizes y.l = y.l.length + bl y.l ∧ bl (x.l.take j) + sizes y.l ≤ bl x.l from ⟨sizes_step hy, bl_step hy, y.size_eq, sizes_bl _, by
            have := bl_step hy
            have e : bl x.l = bl (x.l.take (j + 1)) + bl (x.l.drop (j + 1)) := by rw [← bl_append, List.take_append_drop]
            omega⟩)
          have hj1 : (j : Int) < (x.l.length : Int) := by omega
          clear hysane hyl hyl0 hy
          by_cases hn : y.l.length = 0
          · have hn0 : (decide (0 < y.l.length)) = false := decide_eq_false (by omega)
            have hn1 : (decide ((0 : Int) < (y.l.length : Int))) = false := decide_eq_false (by omega)
            have HN := Lib.hid hn
            have hn2 : ¬ 0 < y.l.length := by omega
            clear hn
            go_wp2_with fail
            have HJ2 := Lib.hid (hJ.out.2.2.2.later (Only.alloc (fun _ => False) wr (.cells #[.int .i64 y.k, .int .i64 y.n, .string y.s, .slice yo y.l.length yc] 31)))
            go_roundw
            case rel => exact ⟨j + 1, c', m', so', sc', zs, by go_num, by omega, rfl, rfl, Lib.hid ⟨hJ.out.1, by have h1 := hJ.out.2.1; have h2 := HST.out; omega, by have h1 := hJ.out.2.2.1; have h2 := HST.out; have h3 := HN.out; omega, HJ2.out⟩⟩
            case measure => simp [intOf]; omega
          · have hn0 : (decide (0 < y.l.length)) = true := decide_eq_true (by omega)
            have hn1 : (decide ((0 : Int) < (y.l.length : Int))) = true := decide_eq_true (by omega)
            have hn2 : 0 < y.l.length := by omega
            have HN := Lib.hid hn
            have hcn : c' + y.l.length ≤ 1000000 := by have h1 := hJ.out.2.2.1; have h2 := HST.out; have h3 := HWT.out; have h4 := HBL.out; omega
            have hwr2 : IntKind.i64.wrap (39000000 - (c' : Int) - (y.l.length : Int)) = 39000000 - (c' : Int) - (y.l.length : Int) := IntWalk.i64_in _ (by omega)
            have HJ2 := Lib.hid (hJ.out.2.2.2.later (Only.alloc (fun _ => False) wr (.cells #[.int .i64 y.k, .int .i64 y.n, .string y.s, .slice yo y.l.length yc] 31)))
            have HMZ : Hid (m' ≤ 1000001) := Lib.hid (by have h1 := wt_len zs; have h2 := hJ.out.2.1; have h3 := HWT.out; have h4 := sizes_take_le x.l j; rw [hJ.out.1] at h1; omega)
            clear hn
            go_wp2_with (first
              | (at_builtin; rw [← hJ.out.1]; refine wp_append_one liesL rfl (.tmp 46) (.tmp 49) 159 rfl w.heap.size 29 i0 _ 24 Try.underlying159 hi hz0 hz1 hz2 rfl (by omega) (wr.alloc (.cells #[.int .i64 y.k, .int .i64 y.n, .string y.s, .slice yo y.l.length yc] 31)) so' sc' zs ⟨y.l, yo, yc⟩ [.slice yo y.l.length yc] rfl rfl HJ2.out.row (by rw [show (wr.alloc (.cells #[.int .i64 y.k, .int .i64 y.n, .string y.s, .slice yo y.l.length yc] 31)).heap.size = wr.heap.size + 1 by simp]; rfl) (by rw [hJ.out.1]; have := HMZ.out; omega) HJ2.out.own.size ?_; intro so2 sc2 w5 hrow5 ho5 hnew5
                 have HJ5 : Hid (Ways w w.heap.size so2 sc2 (zs ++ [⟨y.l, yo, yc⟩]) w5) := Lib.hid ⟨hrow5, Only.cut HJ2.out.own ho5 (by rintro k ⟨g', hg', rfl⟩; exact (HJ2.out.row.head g' hg').2.1), fun z hz => by
                   rcases List.mem_append.1 hz with hz | hz
                   · exact HJ2.out.lies z hz
                   · rw [List.mem_singleton.1 hz]
                     exact ⟨HYL.out, HYS2.out.l⟩⟩
                 clear hrow5 ho5 hnew5)
              | fail)
            go_roundw
            case rel => exact ⟨j + 1, c' + y.l.length, (zs ++ [(⟨y.l, yo, yc⟩ : Ls)]).length, so2, sc2, zs ++ [(⟨y.l, yo, yc⟩ : Ls)], by go_num, by omega, by congr 1; omega, by first | rfl | simp, Lib.hid ⟨rfl, by rw [wt_append, wt_one]; have h1 := hJ.out.2.1; have h2 := HST.out; show wt zs + (1 + sizes y.l) ≤ _; omega, by rw [bls_append, bls_one]; have h1 := hJ.out.2.2.1; have h2 := HST.out; show c' + y.l.length + (bls zs + bl y.l) + bl x.l ≤ _; omega, HJ5.out⟩⟩
            case measure => simp [intOf]; omega
        · obtain rfl : j = x.l.length := by omega
          go_wp2_with fail
          go_roundg (wt ys + sizes x.l)
          case measure => have := HWT.out; omega
          case rel =>
            have h1 := hJ.out.2.1
            have h2 := hJ.out.2.2.1
            rw [List.take_length] at h1 h2
            exact ⟨c', m', so', sc', zs, rfl, rfl, Lib.hid ⟨hJ.out.1, h1, by omega, by have := HWT.out; omega, hJ.out.2.2.2⟩⟩
end
end Go.Proofs.Ythfilpacmllhpab.terms
/- Terms: a list of the same terms in memory of its own. -/
namespace Go.Proofs.Ythfilpacmllhpab.terms
set_option maxRecDepth 100000
section
open Go.RowKit Go.Proofs.Ythfilpacmllhpab.own Go.Maps
/-- Items lie at ao, wherever that is. -/
def Src (w : World) (ao : Option Addr) (its : List It) : Prop := ∀ (i : Nat) (x : It), its[i]? = some x → ∃ b off, ao = some ⟨b, off, none⟩ ∧ b < w.heap.size ∧ ∀ r, r < 4 → w.cell? ⟨b, off + i * 4 + r, none⟩ = (encIt x)[r]?
theorem Row.src {P : Nat → Prop} {w : World} {ao : Option Addr} {l : List T} (h : Row P w ao l) (hP : ∀ k, P k → k < w.heap.size) : ∃ its : List It, its.map (·.t) = l ∧ Src w ao its ∧ ∀ (i : Nat) (x : It), its[i]? = some x → x.t.Sane ∧ Row P w x.ao x.t.l := by
  cases h with
  | mk ao l ro rc cells subs =>
    refine ⟨l.mapIdx (fun i t => ⟨t, ro i, rc i⟩), ?_, fun i x hx => ?_, fun i x hx => ?_⟩
    · apply List.ext_getElem?
      intro i
      rw [List.getElem?_map, List.getElem?_mapIdx]
      cases l[i]? <;> rfl
    · rw [List.getElem?_mapIdx] at hx
      obtain ⟨t, ht, rfl⟩ := Option.map_eq_some_iff.1 hx
      obtain ⟨b, off, h1, h2, h3, h4, h5, h6, h7⟩ := cells i t ht
      refine ⟨b, off, h1, hP b h2, fun r hr => ?_⟩
      match r, hr with
      | 0, _ => simpa [encIt] using h3
      | 1, _ => simpa [encIt] using h4
      | 2, _ => simpa [encIt] using h5
      | 3, _ => simpa [encIt] using h6
    · rw [List.getElem?_mapIdx] at hx
      obtain ⟨t, ht, rfl⟩ := Option.map_eq_some_iff.1 hx
      obtain ⟨b, off, h1, h2, h3, h4, h5, h6, h7⟩ := cells i t ht
      exact ⟨h7.1, subs i t ht⟩
theorem Src.cells {w : World} {its : List It} {b off : Nat} (h : Src w (some ⟨b, off, none⟩) its) : ∀ j u, (its.flatMap encIt)[j]? = some u → w.cell? ((⟨b, off, none⟩ : Addr).add j) = some u := by
  intro j u hj
  have hlt : j < its.length * 4 := by
    have := (List.getElem?_eq_some_iff.1 hj).1
    rw [flat_len liesIt] at this
    exact this
  obtain ⟨x, hx⟩ : ∃ x, its[j / 4]? = some x := ⟨_, List.getElem?_eq_getElem (by omega)⟩
  have hf := flat_get liesIt its (j / 4) (j % 4) x hx (by omega)
  rw [show j / 4 * 4 + j % 4 = j by omega, hj] at hf
  obtain ⟨b', off', he, _, hc⟩ := h (j / 4) x hx
  cases he
  have := hc (j % 4) (by omega)
  rw [← hf, show off + j / 4 * 4 + j % 4 = off + j by omega] at this
  have e : (⟨b, off, none⟩ : Addr).add j = ⟨b, off + j, none⟩ := by unfold Addr.add; split <;> simp_all
  rw [e]
  exact this
set_option maxRecDepth 100000 in
set_option maxHeartbeats 2000000 in
theorem fresh_any (its : List It) (w : World) (ao : Option Addr) (cap : Nat) (h : Src w ao its) (hlen : its.length ≤ 1000001) :
    Calls Try.prog 98 #[.slice ao its.length cap] w fun e w' => ∃ fo fc, e = .returned (.slice fo its.length fc) ∧ ItsP w.heap.size fo fc its w' ∧ (its = [] → fo = none) ∧ Only (fun _ => False) w w' := by
  obtain ⟨i0, hi, hz0, hz1, hz2⟩ := info_parts infoT
  by_cases h0 : its.length = 0
  · have hnil : its = [] := List.length_eq_zero_iff.1 h0
    subst hnil
    clear h h0
    go_enter Try.func98, Try.ntmps98
    go_wp2_with fail
    go_ret
    exact ⟨none, 0, rfl, RowOf.nil _ _ _ _ _, fun _ => rfl, Only.refl _ _⟩
  · obtain ⟨x, hx⟩ : ∃ x, its[0]? = some x := ⟨_, List.getElem?_eq_getElem (by omega)⟩
    obtain ⟨b, off, rfl, hb, _⟩ := h 0 x hx
    have HS := Lib.hid h
    have hne : ((its.length : Int) == 0) = false := by simp; intro e; rw [e] at h0; exact h0 rfl
    have HN : Hid (¬ its = []) := Lib.hid (fun e => h0 (by rw [e]; rfl))
    clear h h0 hx
    go_enter Try.func98, Try.ntmps98
    go_wp2_with (first
      | (at_make; refine wpList_make_own _ rfl _ _ 29 rfl w.heap.size 31 i0 _ 4 Try.underlying29 hi hz0 hz1 .i64 .i64 _ its.length rfl rfl rfl (by rw [hz2]; omega) (by unfold maxLen; omega) (Nat.le_refl _) ?_; intro w1 hown1 hg1
         have HOWN := Lib.hid hown1
         have HO1 : Hid (Only (fun _ => False) w w1) := Lib.hid ((Only.grown hg1).mono (fun _ _ e => by cases e))
         clear hown1 hg1)
      | (at_builtin; refine wpList_append_own_at w1 rfl (.tmp 8) (.tmp 9) 29 rfl w.heap.size 31 i0 _ 4 56 Try.underlying29 hi hz0 hz1 hz2 rfl (by omega) _ 0 [] rfl HOWN.out ⟨b, off, none⟩ its.length cap (its.flatMap encIt) rfl (flat_len liesIt its) (fun j u hj => (HO1.out.cell (p := (⟨b, off, none⟩ : Addr).add j) (by rw [show ((⟨b, off, none⟩ : Addr).add j).block = b by unfold Addr.add; split <;> rfl]; exact hb) (fun e => e)).trans (HS.out.cells j u hj)) (fun u hu => by obtain ⟨x, _, hx⟩ := List.mem_flatMap.1 hu; exact liesIt.one x u hx) (by unfold maxLen; omega) (by omega) HO1.out.size ?_; intro v' w2 hown2 hg2 hnil2 hat2
         obtain ⟨fo, fc, rfl⟩ := owned_shape hown2
         have HOWN2 := Lib.hid hown2
         have HO2 : Hid (Only (fun q => q = w.heap.size) w1 w2) := Lib.hid ((Only.grown hg2).mono (fun q _ e => Option.some.inj (show some q = some w.heap.size from e)))
         clear hown2 hg2 hnil2 hat2)
      | fail)
    go_ret
    refine ⟨fo, fc, by simp, ?_, fun e => absurd e HN.out, Only.cut HO1.out HO2.out (fun k e => by omega)⟩
    have := HOWN2.out
    unfold ItsP RowOf
    simpa using this
end
end Go.Proofs.Ythfilpacmllhpab.terms
/- Terms: a list of terms being copied. -/
namespace Go.Proofs.Ythfilpacmllhpab.terms
set_option maxRecDepth 100000
section
open Go.RowKit Go.Proofs.Ythfilpacmllhpab.own Go.Maps
/-- A row that was laid anew, whose items still have the old arguments. -/
structure Pd where
  g : Nat
  its : List It
  cap : Nat
def Pd.ls (p : Pd) : Ls := ⟨p.its.map (·.t), some ⟨p.g, 0, none⟩, p.cap⟩
structure PdOk (w wr : World) (p : Pd) : Prop where
  row : ItsP w.heap.size (some ⟨p.g, 0, none⟩) p.cap p.its wr
  lies : ∀ (i : Nat) (x : It), p.its[i]? = some x → x.t.Sane ∧ Lies w x.ao x.t.l
def Pend (ps : List Pd) (so : Option Addr) (k : Nat) : Prop := (∃ p ∈ ps, p.g = k) ∨ RowAt so k
abbrev Since (w w' : World) (k : Nat) : Prop := w.heap.size ≤ k ∧ k < w'.heap.size
/-- The copying under way: once each row of ps is whole, the list is. -/
structure Cop (w : World) (top : Option Addr) (l : List T) (ps : List Pd) (so : Option Addr) (sc : Nat) (wr : World) : Prop where
  row : LsP w.heap.size so sc (ps.map Pd.ls) wr
  own : Only (fun _ => False) w wr
  ok : ∀ p ∈ ps, PdOk w wr p
  nd : (ps.map (·.g)).Nodup
  wand : ∀ w', Only (Pend ps so) wr w' → (∀ p ∈ ps, Row (Since w w') w' (some ⟨p.g, 0, none⟩) (p.its.map (·.t))) → Row (Since w w') w' top l
/-- The first j items of a row were given new arguments. -/
structure CopI (w wr : World) (p : Pd) (qs cs : List Pd) (so so2 : Option Addr) (sc2 : Nat) (its : List It) (j : Nat) (wr2 : World) : Prop where
  row : LsP w.heap.size so2 sc2 ((qs ++ cs).map Pd.ls) wr2
  own : Only (fun k => k = p.g ∨ RowAt so k) wr wr2
  ok : ∀ q ∈ qs ++ cs, PdOk w wr2 q
  nd : ((qs ++ cs).map (·.g)).Nodup
  away : ∀ q ∈ qs ++ cs, q.g ≠ p.g
  mine : ItsP w.heap.size (some ⟨p.g, 0, none⟩) p.cap its wr2
  len : its.length = p.its.length
  rest : ∀ i, j ≤ i → its[i]? = p.its[i]?
  done : ∀ (i : Nat) (x : It), i < j → p.its[i]? = some x → ∃ y, its[i]? = some y ∧ y.t = x.t ∧ (x.t.l = [] ∨ ∃ c ∈ cs, y.ao = some ⟨c.g, 0, none⟩ ∧ c.its.map (·.t) = x.t.l)
  new : ∀ c ∈ cs, wr.heap.size ≤ c.g
  nrow : NewRow wr.heap.size so so2
theorem its_block {B g cap : Nat} {xs : List It} {w : World} (h : ItsP B (some ⟨g, 0, none⟩) cap xs w) : ∃ cur, w.heap[g]? = some (.cells cur 31 (0, 0)) := by
  rcases h.2 with ⟨h1, _⟩ | ⟨g', cap', cur, hv, _, hg, _⟩
  · simp at h1
  · simp only [Value.slice.injEq, Option.some.injEq, Addr.mk.injEq] at hv
    obtain ⟨⟨rfl, _⟩, _⟩ := hv
    exact ⟨cur, hg⟩
theorem ls_block {B cap : Nat} {g : Addr} {xs : List Ls} {w : World} (h : LsP B (some g) cap xs w) : ∃ cur, w.heap[g.block]? = some (.cells cur 29 (0, 0)) := by
  rcases h.2 with ⟨h1, _⟩ | ⟨g', cap', cur, hv, _, hg, _⟩
  · simp at h1
  · simp only [Value.slice.injEq, Option.some.injEq] at hv
    obtain ⟨rfl, _⟩ := hv
    exact ⟨cur, hg⟩
theorem its_ls {B B' g cap sc : Nat} {so : Option Addr} {xs : List It} {ys : List Ls} {w : World} (h : ItsP B (some ⟨g, 0, none⟩) cap xs w) (h' : LsP B' so sc ys w) : ¬ RowAt so g := by
  rintro ⟨a, rfl, rfl⟩
  obtain ⟨c1, e1⟩ := its_block h
  obtain ⟨c2, e2⟩ := ls_block h'
  rw [e1] at e2
  simp only [Option.some.injEq, Obj.cells.injEq] at e2
  exact absurd e2.2.1 (by decide)
theorem PdOk.only {w wr w' : World} {p : Pd} {S : Nat → Prop} (h : PdOk w wr p) (ho : Only S wr w') (hS : ¬ S p.g) : PdOk w w' p :=
  ⟨h.row.only ho (fun g hg e => by cases hg; exact hS e), h.lies⟩
/-- At the beginning of a row. -/
theorem Cop.start {w wr : World} {top : Option Addr} {l : List T} {qs : List Pd} {p : Pd} {so : Option Addr} {sc : Nat} (h : Cop w top l (qs ++ [p]) so sc wr) : CopI w wr p qs [] so so sc p.its 0 wr := by
  have hnd := h.nd
  rw [List.map_append, List.nodup_append] at hnd
  have hr := h.row.take liesL qs.length (by simp)
  have e : ((qs ++ [p]).map Pd.ls).take qs.length = (qs ++ []).map Pd.ls := by simp
  rw [e] at hr
  refine ⟨hr, Only.refl _ _, fun q hq => h.ok q (by simp at hq; simp [hq]), by simpa using hnd.1, fun q hq he => ?_, (h.ok p (by simp)).row, rfl, fun _ _ => rfl, fun i x hi => by omega, fun c hc => (by cases hc), NewRow.refl _ _⟩
  simp only [List.append_nil] at hq
  exact hnd.2.2 q.g (List.mem_map.2 ⟨q, hq, rfl⟩) p.g (by simp) he
/-- At its end. -/
theorem CopI.finish {w wr wr2 : World} {top : Option Addr} {l : List T} {qs cs : List Pd} {p : Pd} {so so2 : Option Addr} {sc sc2 : Nat} {its : List It} (h : Cop w top l (qs ++ [p]) so sc wr) (hi : CopI w wr p qs cs so so2 sc2 its p.its.length wr2) : Cop w top l (qs ++ cs) so2 sc2 wr2 := by
  have hp := h.ok p (by simp)
  have hpB := (hp.row.head _ rfl).2
  have hso : ∀ k, RowAt so k → w.heap.size ≤ k := by
    rintro k ⟨a, ha, rfl⟩
    exact (h.row.head a ha).2.1
  refine ⟨hi.row, Only.cut h.own hi.own (fun k e => by rcases e with rfl | e; exact hpB.1; exact hso k e), hi.ok, hi.nd, fun w' ho hrows => ?_⟩
  refine h.wand w' (hi.own.mono (S' := Pend (qs ++ [p]) so) (fun k _ e => ?_) |>.trans ho (fun k hk e => ?_)) (fun q hq => ?_)
  · rcases e with rfl | e
    · exact .inl ⟨p, by simp, rfl⟩
    · exact .inr e
  · rcases e with ⟨q, hq, rfl⟩ | ⟨a, ha, rfl⟩
    · rcases List.mem_append.1 hq with hq | hq
      · exact .inl ⟨q, by simp [hq], rfl⟩
      · have := hi.new q hq; omega
    · rcases hi.nrow a ha with e | e
      · exact .inr ⟨a, e, rfl⟩
      · omega
  · rcases List.mem_append.1 hq with hq | hq
    · exact hrows q (by simp [hq])
    · rw [List.mem_singleton.1 hq]
      have hne : ¬ Pend (qs ++ cs) so2 p.g := by
        rintro (⟨q, hq, e⟩ | e)
        · exact hi.away q hq e
        · exact its_ls hi.mine hi.row e
      have hm := hi.mine.only ho (fun g hg e => by cases hg; exact hne e)
      have ht : its.map (·.t) = p.its.map (·.t) := by
        apply List.ext_getElem?
        intro i
        rw [List.getElem?_map, List.getElem?_map]
        by_cases hlt : i < p.its.length
        · obtain ⟨x, hx⟩ : ∃ x, p.its[i]? = some x := ⟨_, List.getElem?_eq_getElem hlt⟩
          obtain ⟨y, hy, e, _⟩ := hi.done i x hlt hx
          rw [hx, hy]
          simp [e]
        · rw [List.getElem?_eq_none (by rw [hi.len]; omega), List.getElem?_eq_none (by omega)]
      rw [← ht]
      refine ItsP.row (P := Since w w') hm ⟨hpB.1, Nat.lt_of_lt_of_le hpB.2 (Nat.le_trans hi.own.size ho.size)⟩ (fun i y hy => ?_)
      have hlt : i < p.its.length := by have := (List.getElem?_eq_some_iff.1 hy).1; rw [hi.len] at this; exact this
      obtain ⟨x, hx⟩ : ∃ x, p.its[i]? = some x := ⟨_, List.getElem?_eq_getElem hlt⟩
      obtain ⟨y', hy', e, hc⟩ := hi.done i x hlt hx
      rw [hy] at hy'
      cases hy'
      have hs := (hp.lies i x hx).1
      rw [e]
      refine ⟨hs, ?_⟩
      rcases hc with hc | ⟨c, hc, ha, hm2⟩
      · rw [hc]; exact Row.nil _ _ _
      · rw [ha, ← hm2]
        exact hrows c (by simp [hc])
/-- An item's arguments were laid anew, and are put into its row. -/
structure CopS (w wr : World) (p : Pd) (qs cs : List Pd) (so so2 : Option Addr) (sc2 : Nat) (its : List It) (j : Nat) (x : It) (fo : Option Addr) (fc : Nat) (sub : List It) (wr2 : World) : Prop where
  row : LsP w.heap.size so2 sc2 ((qs ++ cs).map Pd.ls) wr2
  own : Only (fun k => k = p.g ∨ RowAt so k) wr wr2
  ok : ∀ q ∈ qs ++ cs, PdOk w wr2 q
  mine : ItsP w.heap.size (some ⟨p.g, 0, none⟩) p.cap (its.set j ⟨x.t, fo, fc⟩) wr2
  child : ItsP wr.heap.size fo fc sub wr2
  apart : ∀ g, fo = some ⟨g, 0, none⟩ → g ≠ p.g ∧ ∀ q ∈ qs ++ cs, q.g ≠ g
theorem CopI.store {w wr wr2 w3 : World} {qs cs : List Pd} {p : Pd} {so so2 : Option Addr} {sc2 j : Nat} {its : List It} (h : CopI w wr p qs cs so so2 sc2 its j wr2) {x : It} (hx : its[j]? = some x) {sub : List It} (hm : sub.map (·.t) = x.t.l) {fo : Option Addr} {fc : Nat} (hc : ItsP wr2.heap.size fo fc sub w3) (ho : Only (fun _ => False) wr2 w3) :
    CopS w wr p qs cs so so2 sc2 its j x fo fc sub (w3.setCell ⟨p.g, j * 4 + 3, none⟩ (.slice fo x.t.l.length fc)) := by
  have hmine := h.mine.only ho (fun _ _ e => e)
  have hpB : w.heap.size ≤ p.g ∧ p.g < wr2.heap.size := (h.mine.head _ rfl).2
  obtain ⟨r1, o1⟩ := hmine.stored liesIt j 3 x ⟨x.t, fo, fc⟩ (.slice fo x.t.l.length fc) hx (by omega) rfl
  have hsz := h.own.size
  have hfo : ∀ g, fo = some g → wr2.heap.size ≤ g.block := fun g hg => (hc.head g hg).2.1
  refine ⟨(h.row.only ho (fun _ _ e => e)).only o1 (fun g hg e => its_ls h.mine h.row ⟨g, hg, e.symm⟩), (h.own.same (ho.no _)).same (o1.mono (fun k _ e => .inl e)), fun q hq => ((h.ok q hq).only ho (fun e => e)).only o1 (h.away q hq), r1, ?_, fun g hg => ⟨?_, fun q hq e => ?_⟩⟩
  · have h1 := hc.only o1 (fun g hg e => by have := hfo g hg; omega)
    obtain ⟨e1, e2⟩ := h1
    refine ⟨e1, ?_⟩
    rcases e2 with e2 | ⟨g, c', cur, a1, a2, a3⟩
    · exact .inl e2
    · exact .inr ⟨g, c', cur, a1, by omega, a3⟩
  · have := hfo _ hg
    simp only at this
    omega
  · have h1 := hfo _ hg
    have h2 := ((h.ok q hq).row.head _ rfl).2.2
    simp only at h1 h2
    omega
theorem CopI.after {w wr wr2 w4 : World} {qs cs : List Pd} {p : Pd} {so so2 : Option Addr} {sc2 j : Nat} {its : List It} (h : CopI w wr p qs cs so so2 sc2 its j wr2) {x : It} (hx : its[j]? = some x) {sub : List It} {fo : Option Addr} {fc : Nat} (hs : CopS w wr p qs cs so so2 sc2 its j x fo fc sub w4) (hnil : x.t.l = []) :
    CopI w wr p qs cs so so2 sc2 (its.set j ⟨x.t, fo, fc⟩) (j + 1) w4 := by
  have hjl := (List.getElem?_eq_some_iff.1 hx).1
  refine ⟨hs.row, hs.own, hs.ok, h.nd, h.away, hs.mine, by rw [List.length_set]; exact h.len, fun i hi => ?_, fun i z hi hz => ?_, h.new, h.nrow⟩
  · rw [List.getElem?_set_ne (by omega)]
    exact h.rest i (by omega)
  · by_cases e : i = j
    · subst e
      have := h.rest i (Nat.le_refl _)
      rw [hx, hz] at this
      cases this
      exact ⟨⟨x.t, fo, fc⟩, by rw [List.getElem?_set_self hjl], rfl, .inl hnil⟩
    · rw [List.getElem?_set_ne (by omega)]
      exact h.done i z (by omega) hz
theorem CopI.push {w wr wr2 w4 w5 : World} {qs cs : List Pd} {p : Pd} {so so2 so3 : Option Addr} {sc2 sc3 j : Nat} {its : List It} (h : CopI w wr p qs cs so so2 sc2 its j wr2) {x : It} (hx : its[j]? = some x) {sub : List It} (hm : sub.map (·.t) = x.t.l) (hlies : ∀ (i : Nat) (y : It), sub[i]? = some y → y.t.Sane ∧ Lies w y.ao y.t.l) {gc fc : Nat}
    (hs : CopS w wr p qs cs so so2 sc2 its j x (some ⟨gc, 0, none⟩) fc sub w4) (hwr : w.heap.size ≤ wr.heap.size) (hr : LsP w.heap.size so3 sc3 ((qs ++ cs).map Pd.ls ++ [Pd.ls ⟨gc, sub, fc⟩]) w5) (ho : Only (RowAt so2) w4 w5) (hn : NewRow w4.heap.size so2 so3) :
    CopI w wr p qs (cs ++ [⟨gc, sub, fc⟩]) so so3 sc3 (its.set j ⟨x.t, some ⟨gc, 0, none⟩, fc⟩) (j + 1) w5 := by
  have hjl := (List.getElem?_eq_some_iff.1 hx).1
  have hap := hs.apart gc rfl
  have hgc := (hs.child.head _ rfl).2
  have hchild : ItsP w.heap.size (some ⟨gc, 0, none⟩) fc sub w4 := by
    obtain ⟨e1, e2⟩ := hs.child
    refine ⟨e1, ?_⟩
    rcases e2 with e2 | ⟨g, c', cur, a1, a2, a3⟩
    · exact .inl e2
    · exact .inr ⟨g, c', cur, a1, by omega, a3⟩
  have hqs : qs ++ (cs ++ [⟨gc, sub, fc⟩]) = (qs ++ cs) ++ [⟨gc, sub, fc⟩] := by rw [List.append_assoc]
  have hsz := hs.own.size
  refine ⟨?_, ?_, fun q hq => ?_, ?_, fun q hq => ?_, hs.mine.only ho (fun g hg e => by cases hg; exact its_ls hs.mine hs.row e), by rw [List.length_set]; exact h.len, fun i hi => ?_, fun i z hi hz => ?_, fun c hc => ?_, ?_⟩
  · rw [hqs, List.map_append]
    exact hr
  · refine hs.own.trans ho (fun k hk e => ?_)
    obtain ⟨a, ha, rfl⟩ := e
    rcases h.nrow a ha with e | e
    · exact .inr ⟨a, e, rfl⟩
    · omega
  · rw [hqs] at hq
    rcases List.mem_append.1 hq with hq | hq
    · exact (hs.ok q hq).only ho (fun e => its_ls (hs.ok q hq).row hs.row e)
    · rw [List.mem_singleton.1 hq]
      exact ⟨hchild.only ho (fun g hg e => by cases hg; exact its_ls hchild hs.row e), hlies⟩
  · rw [hqs, List.map_append, List.nodup_append]
    refine ⟨h.nd, by simp, fun a ha b hb e => ?_⟩
    simp only [List.map_cons, List.map_nil, List.mem_singleton] at hb
    obtain ⟨q, hq, rfl⟩ := List.mem_map.1 ha
    exact hap.2 q hq (e.trans hb)
  · rw [hqs] at hq
    rcases List.mem_append.1 hq with hq | hq
    · exact h.away q hq
    · rw [List.mem_singleton.1 hq]
      exact hap.1
  · rw [List.getElem?_set_ne (by omega)]
    exact h.rest i (by omega)
  · by_cases e : i = j
    · subst e
      have := h.rest i (Nat.le_refl _)
      rw [hx, hz] at this
      cases this
      exact ⟨⟨x.t, some ⟨gc, 0, none⟩, fc⟩, by rw [List.getElem?_set_self hjl], rfl, .inr ⟨⟨gc, sub, fc⟩, by simp, rfl, hm⟩⟩
    · rw [List.getElem?_set_ne (by omega)]
      obtain ⟨y, h1, h2, h3⟩ := h.done i z (by omega) hz
      refine ⟨y, h1, h2, ?_⟩
      rcases h3 with h3 | ⟨c, hc, h3⟩
      · exact .inl h3
      · exact .inr ⟨c, by simp [hc], h3⟩
  · rcases List.mem_append.1 hc with hc | hc
    · exact h.new c hc
    · rw [List.mem_singleton.1 hc]
      exact hgc.1
  · exact h.nrow.trans hn hsz
end
end Go.Proofs.Ythfilpacmllhpab.terms
/- Terms: copied. -/
namespace Go.Proofs.Ythfilpacmllhpab.terms
set_option maxRecDepth 100000
section
open Go.RowKit Go.Proofs.Ythfilpacmllhpab.own Go.Maps
theorem Src.later {w w' : World} {ao : Option Addr} {its : List It} (h : Src w ao its) (ho : Only (fun _ => False) w w') : Src w' ao its := fun i x hx => by
  obtain ⟨b, off, h1, h2, h3⟩ := h i x hx
  exact ⟨b, off, h1, Nat.lt_of_lt_of_le h2 ho.size, fun r hr => (ho.cell (p := ⟨b, off + i * 4 + r, none⟩) h2 (fun e => e)).trans (h3 r hr)⟩
/-- A copy of a list's row; its items' arguments are the old ones. -/
theorem fresh_row {l : List T} {w : World} {ao : Option Addr} (cap : Nat) (hl : Lies w ao l) (hz : sizes l ≤ 1000000) : ∃ its : List It, its.map (·.t) = l ∧ (∀ (i : Nat) (x : It), its[i]? = some x → x.t.Sane ∧ Lies w x.ao x.t.l) ∧ ∀ w1, Only (fun _ => False) w w1 → Calls Try.prog 98 #[.slice ao l.length cap] w1 fun e w' => ∃ fo fc, e = .returned (.slice fo l.length fc) ∧ ItsP w1.heap.size fo fc its w' ∧ (l ≠ [] → ∃ g, fo = some ⟨g, 0, none⟩) ∧ Only (fun _ => False) w1 w' := by
  obtain ⟨its, hm, hsrc, hsub⟩ := hl.src (fun _ e => e)
  have hlen : its.length = l.length := by rw [← hm, List.length_map]
  have hll := length_le_sizes l
  refine ⟨its, hm, hsub, fun w1 ho => ?_⟩
  have := fresh_any its w1 ao cap (hsrc.later ho) (by omega)
  rw [hlen] at this
  refine this.mono ?_
  rintro e w' ⟨fo, fc, rfl, hr, _, ho2⟩
  refine ⟨fo, fc, rfl, hr, fun hne => ?_, ho2⟩
  obtain ⟨x, hx⟩ : ∃ x, its[0]? = some x := ⟨_, List.getElem?_eq_getElem (by
    have : l.length ≠ 0 := fun e => hne (List.length_eq_zero_iff.1 e)
    omega)⟩
  obtain ⟨g, hg, _⟩ := hr.at liesIt 0 x hx
  exact ⟨g, hg⟩
theorem list_pop {α : Type} {ps : List α} {m : Nat} (hm : ps.length = m + 1) : ∃ qs p, ps = qs ++ [p] ∧ qs.length = m := by
  obtain ⟨x, hx⟩ : ∃ x, ps[m]? = some x := ⟨_, List.getElem?_eq_getElem (by omega)⟩
  refine ⟨ps.take m, x, ?_, by rw [List.length_take]; omega⟩
  have := take_snoc hx
  rw [← this, ← hm, List.take_length]
set_option maxRecDepth 100000 in
set_option maxHeartbeats 4000000 in
theorem copied_cap (l : List T) (hne : l ≠ []) (w : World) (ao : Option Addr) (cap : Nat) (hl : Lies w ao l) (hz : sizes l ≤ 1000000) :
    Calls Try.prog 87 #[.slice ao l.length cap] w fun e w' => ∃ g fc, e = .returned (.slice (some ⟨g, 0, none⟩) l.length fc) ∧ Row (Since w w') w' (some ⟨g, 0, none⟩) l ∧ Only (fun _ => False) w w' ∧ l.length ≤ fc := by
  obtain ⟨i0, hi, hz0, hz1, hz2⟩ := info_parts infoL
  obtain ⟨its, hm, hsub, hf⟩ := fresh_row cap hl hz
  have HM := Lib.hid hm
  have HSUB := Lib.hid hsub
  have HF := Lib.hid (hf w (Only.refl _ _))
  have HNE := Lib.hid hne
  have HZ := Lib.hid hz
  clear hl hz hm hsub hf hne
  go_enter Try.func87, Try.ntmps87
  go_wp2_with fail
  refine HF.out.mono ?_
  rintro e w1 ⟨fo, fc, rfl, hr, hg, ho⟩
  obtain ⟨g0, rfl⟩ := hg HNE.out
  have HO := Lib.hid ho
  have HR := Lib.hid hr
  have HCAP : Hid (l.length ≤ fc) := Lib.hid (by have := hr.cap_ge.1; rw [← HM.out, List.length_map]; exact this)
  clear hr hg ho
  go_wp2_with fail
  have HC0 : Hid (Cop w (some ⟨g0, 0, none⟩) l [⟨g0, its, fc⟩] (some ⟨w1.heap.size, 0, none⟩) 1 (w1.alloc (.cells #[.slice (some ⟨g0, 0, none⟩) l.length fc] 29))) := Lib.hid (by
    have ho2 : Only (fun _ => False) w1 (w1.alloc (.cells #[.slice (some ⟨g0, 0, none⟩) l.length fc] 29)) := Only.alloc _ _ _
    have hb := heap_alloc_new w1 (.cells #[.slice (some ⟨g0, 0, none⟩) l.length fc] 29)
    have hlen : (its.map (·.t)).length = l.length := by rw [HM.out]
    refine ⟨LsP.one (x := Pd.ls ⟨g0, its, fc⟩) HO.out.size (by simpa only [Pd.ls, hlen] using hb), HO.out.same ho2, fun p hp => ?_, by simp, fun w' ho' hrows => ?_⟩
    · rw [List.mem_singleton.1 hp]
      exact ⟨HR.out.only ho2 (fun _ _ e => e), HSUB.out⟩
    · have := hrows ⟨g0, its, fc⟩ (by simp)
      rw [HM.out] at this
      exact this)
  go_loopg [4] (1 + sizes l) (fun gk v4 wr => ∃ (m : Nat) (so : Option Addr) (sc : Nat) (ps : List Pd), v4 = .slice so m sc ∧ Hid (ps.length = m ∧ wt (ps.map Pd.ls) ≤ gk ∧ gk ≤ 1 + sizes l ∧ Cop w (some ⟨g0, 0, none⟩) l ps so sc wr))
  case atStart => exact ⟨1, _, 1, _, rfl, Lib.hid ⟨rfl, by show wt [Pd.ls _] ≤ _; rw [wt_one]; show 1 + sizes (its.map (·.t)) ≤ _; rw [HM.out]; exact Nat.le_refl _, Nat.le_refl _, HC0.out⟩⟩
  case round =>
    obtain ⟨m, so, sc, ps, rfl, hC⟩ := hrel
    clear HC0
    cases m with
    | zero =>
      go_wp2_with fail
      go_ret
      have hnil : ps = [] := List.length_eq_zero_iff.1 hC.out.1
      have hh := hC.out.2.2.2
      exact ⟨g0, fc, rfl, hh.wand _ (Only.refl _ _) (fun p hp => by rw [hnil] at hp; cases hp), hh.own, HCAP.out⟩
    | succ m =>
      obtain ⟨qs, p, hps, hqs⟩ := list_pop hC.out.1
      have hcop := hC.out.2.2.2
      rw [hps] at hcop
      obtain ⟨g, rfl, _, hcell⟩ := hcop.row.at liesL m (Pd.ls p) (by rw [List.getElem?_map, List.getElem?_append_right (by omega), hqs, Nat.sub_self]; rfl)
      have r0 := (hcell 0 (by omega)).1
      simp only [encL, Pd.ls, List.length_map, List.getElem?_cons_zero, Nat.mul_one, Nat.add_zero] at r0
      have hcap := hcop.row.cap_ge
      rw [List.length_map, List.length_append, hqs] at hcap
      have hcap1 : m + 1 ≤ sc := hcap.1
      have hcap2 := hcap.2
      unfold maxLen at hcap2
      have hw1 : IntKind.i64.wrap (((m + 1 : Nat) : Int) - 1) = (m : Int) := by rw [show ((m + 1 : Nat) : Int) - 1 = (m : Int) by omega]; exact IntWalk.i64_in _ (by omega)
      have hm0 : (0 : Int) < ((m + 1 : Nat) : Int) := by omega
      have HCOP := Lib.hid hcop
      have HQS := Lib.hid hqs
      have HWT : Hid (wt (qs.map Pd.ls) + 1 + sizes (p.its.map (·.t)) ≤ gk ∧ gk ≤ 1 + sizes l ∧ sizes l ≤ 1000000) := Lib.hid ⟨by
        have h1 := hC.out.2.1
        rw [hps, List.map_append, wt_append, List.map_cons, List.map_nil, wt_one] at h1
        have e : sizes (Pd.ls p).l = sizes (p.its.map (·.t)) := rfl
        omega, hC.out.2.2.1, HZ.out⟩
      have HST := Lib.hid hcop.start
      have hpl : p.its.length ≤ 1000000 := by
        have h1 := length_le_sizes (p.its.map (·.t))
        rw [List.length_map] at h1
        have := HWT.out
        omega
      clear hps hqs hcop hcell hcap
      go_wp2_with fail
      clear r0 hw1 hm0 hcap1 hcap2
      go_loopw [4, 27] (fun v4 i wr2 => ∃ (j m' : Nat) (so2 : Option Addr) (sc2 : Nat) (cs : List Pd) (its2 : List It), i = .int .i64 j ∧ j ≤ p.its.length ∧ v4 = .slice so2 m' sc2 ∧ Hid ((qs ++ cs).length = m' ∧ wt ((qs ++ cs).map Pd.ls) ≤ wt (qs.map Pd.ls) + sizes ((p.its.map (·.t)).take j) ∧ CopI w wr p qs cs (some ⟨g, 0, none⟩) so2 sc2 its2 j wr2)) (fun _ i _ => p.its.length - (intOf i).toNat)
      case atStart => exact ⟨0, m, _, sc, [], p.its, rfl, by omega, rfl, Lib.hid ⟨by rw [List.append_nil]; exact HQS.out, by rw [List.append_nil]; omega, HST.out⟩⟩
      case round =>
        obtain ⟨j, m', so2, sc2, cs, its2, rfl, hj, rfl, hI⟩ := hrel
        by_cases hlt : j < p.its.length
        · obtain ⟨x, hx⟩ : ∃ x, p.its[j]? = some x := ⟨_, List.getElem?_eq_getElem hlt⟩
          have hx2 : its2[j]? = some x := by rw [hI.out.2.2.rest j (Nat.le_refl _)]; exact hx
          have hxt : (p.its.map (·.t))[j]? = some x.t := by rw [List.getElem?_map, hx]; rfl
          have hpk := (HCOP.out.ok p (by simp)).lies j x hx
          have hss := sizes_step hxt
          have hsl := sizes_take_le (p.its.map (·.t)) (j + 1)
          have hxz : x.t.size = 1 + sizes x.t.l := x.t.size_eq
          have hxl : sizes x.t.l ≤ 1000000 := by have := HWT.out; omega
          obtain ⟨sub, hsm, hsl2, hfr⟩ := fresh_row x.cap hpk.2 hxl
          have hown2 : Only (fun _ => False) w wr := Only.cut HCOP.out.own hI.out.2.2.own (fun k e => by
            rcases e with rfl | ⟨a, ha, rfl⟩
            · exact ((HCOP.out.ok p (by simp)).row.head _ rfl).2.1
            · exact (HCOP.out.row.head a ha).2.1)
          have HFR := Lib.hid (hfr wr hown2)
          obtain ⟨g', hg', _, hcell⟩ := hI.out.2.2.mine.at liesIt j x hx2
          cases hg'
          have c3 := (hcell 3 (by omega)).1
          simp only [encIt, List.getElem?_cons_zero, List.getElem?_cons_succ] at c3
          have HX2 := Lib.hid hx2
          have HSM := Lib.hid hsm
          have HSL := Lib.hid hsl2
          have HOWN2 := Lib.hid hown2
          have HSS : Hid (sizes ((p.its.map (·.t)).take (j + 1)) = sizes ((p.its.map (·.t)).take j) + (1 + sizes x.t.l) ∧ sizes ((p.its.map (·.t)).take (j + 1)) ≤ sizes (p.its.map (·.t))) := Lib.hid ⟨by rw [← hxz]; exact hss, hsl⟩
          have hj1 : (j : Int) < (p.its.length : Int) := by omega
          have hxlen : x.t.l.length ≤ 1000000 := by have := length_le_sizes x.t.l; omega
          clear hx hx2 hxt hpk hss hsl hxz hsm hsl2 hfr hown2 hcell
          go_wp2_with fail
          refine HFR.out.mono ?_
          rintro e w3 ⟨fo, fc2, rfl, hr3, hg3, ho3⟩
          have hm3 := hI.out.2.2.mine.only ho3 (fun _ _ e => e)
          obtain ⟨g', hg', _, hcell⟩ := hm3.at liesIt j x HX2.out
          cases hg'
          have c3 := (hcell 3 (by omega)).1
          have f3 := (hcell 3 (by omega)).2
          simp only [encIt, List.getElem?_cons_zero, List.getElem?_cons_succ] at c3
          have HS := Lib.hid (hI.out.2.2.store HX2.out HSM.out hr3 ho3)
          have HG3 := Lib.hid hg3
          have HO3 := Lib.hid ho3
          clear hr3 hg3 ho3 hm3 hcell
          by_cases hn : x.t.l.length = 0
          · have hn0 : (decide (0 < x.t.l.length)) = false := decide_eq_false (by omega)
            have hn1 : (decide ((0 : Int) < (x.t.l.length : Int))) = false := decide_eq_false (by omega)
            have hn2 : ¬ 0 < x.t.l.length := by omega
            have HN := Lib.hid hn
            clear hn
            go_wp2_with fail
            go_roundw
            case rel => exact ⟨j + 1, m', so2, sc2, cs, its2.set j ⟨x.t, fo, fc2⟩, by go_num, by omega, rfl, Lib.hid ⟨hI.out.1, by have h1 := hI.out.2.1; have h2 := HSS.out; omega, hI.out.2.2.after HX2.out HS.out (List.length_eq_zero_iff.1 HN.out)⟩⟩
            case measure => simp [intOf]; omega
          · have hn0 : (decide (0 < x.t.l.length)) = true := decide_eq_true (by omega)
            have hn1 : (decide ((0 : Int) < (x.t.l.length : Int))) = true := decide_eq_true (by omega)
            have hn2 : 0 < x.t.l.length := by omega
            obtain ⟨gc, rfl⟩ := HG3.out (fun e => hn (by rw [e]; rfl))
            have HMZ : Hid (m' ≤ 1000001) := Lib.hid (by
              have h1 := wt_len ((qs ++ cs).map Pd.ls)
              rw [List.length_map, hI.out.1] at h1
              have h2 := hI.out.2.1
              have h3 := HWT.out
              have h4 := sizes_take_le (p.its.map (·.t)) j
              omega)
            have HWZ : Hid (w.heap.size ≤ (w3.setCell ⟨p.g, j * 4 + 3, none⟩ (.slice (some ⟨gc, 0, none⟩) x.t.l.length fc2)).heap.size) := Lib.hid (by
              have h1 := HCOP.out.own.size
              have h2 := HS.out.own.size
              omega)
            clear hn
            go_wp2_with (first
              | (at_builtin; rw [show m' = ((qs ++ cs).map Pd.ls).length by rw [List.length_map]; exact hI.out.1.symm]; refine wp_append_one liesL rfl (.tmp 47) (.tmp 53) 159 rfl w.heap.size 29 i0 _ 24 Try.underlying159 hi hz0 hz1 hz2 rfl (by omega) (w3.setCell ⟨p.g, j * 4 + 3, none⟩ (.slice (some ⟨gc, 0, none⟩) x.t.l.length fc2)) so2 sc2 ((qs ++ cs).map Pd.ls) (Pd.ls ⟨gc, sub, fc2⟩) [.slice (some ⟨gc, 0, none⟩) x.t.l.length fc2] (by show [Value.slice _ (sub.map (·.t)).length _] = _; rw [HSM.out]; rfl) rfl HS.out.row (by rw [show (w3.setCell ⟨p.g, j * 4 + 3, none⟩ (.slice (some ⟨gc, 0, none⟩) x.t.l.length fc2)).heap.size = w3.heap.size by simp [World.setCell]]; rfl) (by rw [List.length_map, hI.out.1]; have := HMZ.out; omega) HWZ.out ?_; intro so3 sc3 w5 hrow5 ho5 hnew5
                 have HI5 := Lib.hid (hI.out.2.2.push HX2.out HSM.out HSL.out HS.out HCOP.out.own.size hrow5 ho5 hnew5)
                 clear hrow5 ho5 hnew5)
              | fail)
            go_roundw
            case rel => exact ⟨j + 1, ((qs ++ cs).map Pd.ls ++ [Pd.ls ⟨gc, sub, fc2⟩]).length, so3, sc3, cs ++ [⟨gc, sub, fc2⟩], its2.set j ⟨x.t, some ⟨gc, 0, none⟩, fc2⟩, by go_num, by omega, by first | rfl | simp, Lib.hid ⟨by simp [Nat.add_assoc], by rw [← List.append_assoc, List.map_append, wt_append, List.map_cons, List.map_nil, wt_one]; have h1 := hI.out.2.1; have h2 := HSS.out; show _ + (1 + sizes (sub.map (·.t))) ≤ _; rw [HSM.out]; omega, HI5.out⟩⟩
            case measure => simp [intOf]; omega
        · obtain rfl : j = p.its.length := by omega
          go_wp2_with fail
          go_roundg (wt (qs.map Pd.ls) + sizes (p.its.map (·.t)))
          case measure => have := HWT.out; omega
          case rel =>
            have h1 := hI.out.2.1
            rw [List.take_of_length_le (by rw [List.length_map]; exact Nat.le_refl _)] at h1
            exact ⟨m', so2, sc2, qs ++ cs, rfl, Lib.hid ⟨hI.out.1, h1, by have := HWT.out; omega, hI.out.2.2.finish HCOP.out⟩⟩
theorem copied_any (l : List T) (hne : l ≠ []) (w : World) (ao : Option Addr) (cap : Nat) (hl : Lies w ao l) (hz : sizes l ≤ 1000000) :
    Calls Try.prog 87 #[.slice ao l.length cap] w fun e w' => ∃ g fc, e = .returned (.slice (some ⟨g, 0, none⟩) l.length fc) ∧ Row (Since w w') w' (some ⟨g, 0, none⟩) l ∧ Only (fun _ => False) w w' :=
  (copied_cap l hne w ao cap hl hz).mono (fun e w' h => by
    obtain ⟨g, fc, h1, h2, h3, _⟩ := h
    exact ⟨g, fc, h1, h2, h3⟩)
end
end Go.Proofs.Ythfilpacmllhpab.terms
/- Terms: Comp. -/
namespace Go.Proofs.Ythfilpacmllhpab.terms
set_option maxRecDepth 100000
section
open Go.RowKit Go.Proofs.Ythfilpacmllhpab.own Go.Maps
def compF (s : ByteArray) (l : List T) : T := if l.length = 0 then .mk 3 0 s [] else .mk 4 0 s l
theorem atom_plain (s : ByteArray) (w : World) : Calls Try.prog 85 #[.string s] w fun e w' => e = .returned (.agg #[.int .i64 3, .int .i64 0, .string s, .slice none 0 0]) ∧ Only (fun _ => False) w w' := atom_any s w
set_option maxRecDepth 100000 in
set_option maxHeartbeats 2000000 in
theorem Comp_any (s : ByteArray) (l : List T) (w : World) (ao : Option Addr) (cap : Nat) (hs : s.size ≤ maxLen) (hl : Lies w ao l) (hz : sizes l ≤ 1000000) :
    Calls Try.prog 70 #[.string s, .slice ao l.length cap] w fun e w' => ∃ ao' cap', e = .returned (tv (compF s l) ao' cap') ∧ Row (Since w w') w' ao' (compF s l).l ∧ (compF s l).Sane ∧ Only (fun _ => False) w w' := by
  have hll := length_le_sizes l
  have HS := Lib.hid hs
  have hq1 : Quad w.heap.size (.int .i64 0) (.int .i64 0) (.string ⟨#[]⟩) (.slice none 0 0) (w.alloc (.cells #[.int .i64 0, .int .i64 0, .string ⟨#[]⟩, .slice none 0 0] 31)) := heap_alloc_new _ _
  have ho1 : Only (fun _ => False) w (w.alloc (.cells #[.int .i64 0, .int .i64 0, .string ⟨#[]⟩, .slice none 0 0] 31)) := Only.alloc _ _ _
  have HQ1 := Lib.hid hq1
  have HO1 := Lib.hid ho1
  clear hq1 ho1 hs
  by_cases h0 : l.length = 0
  · have HE : Hid (compF s l = .mk 3 0 s []) := Lib.hid (by unfold compF; rw [if_pos h0])
    have hl0 : ((l.length : Int) == 0) = true := by simp [h0]
    clear hl hz hll h0
    go_enter Try.func70, Try.ntmps70
    go_wp2_with fail
    refine (atom_plain s _).mono ?_
    rintro e w2 ⟨rfl, ho2⟩
    have HO2 := Lib.hid (HO1.out.same ho2)
    have hq2 := HQ1.out.only ho2 (fun e => e)
    have HS2 := Lib.hid (hq2.set (.int .i64 3) (.int .i64 0) (.string s) (.slice none 0 0))
    obtain ⟨c0, c1, c2, c3⟩ := hq2.cells
    obtain ⟨f0, f1, f2, f3⟩ := hq2.free
    clear hq2 ho2
    go_wp2_with fail
    have hc := HS2.out.1.cells
    rw [HE.out]
    refine bodyPost_ret (v := tv (T.mk 3 0 s []) none 0) (results_term rfl _ _ w.heap.size _ _ _ _ rfl hc.1 hc.2.1 hc.2.2.1 hc.2.2.2) rfl ?_
    refine ⟨none, 0, rfl, Row.nil _ _ _, ⟨⟨by show (-9223372036854775808 : Int) ≤ 3; omega, by show (3 : Int) ≤ 9223372036854775807; omega⟩, ⟨by show (-9223372036854775808 : Int) ≤ 0; omega, by show (0 : Int) ≤ 9223372036854775807; omega⟩, HS.out, Nat.zero_le _⟩, Only.cut HO2.out HS2.out.2 (fun k e => by omega)⟩
  · have HE : Hid (compF s l = .mk 4 0 s l) := Lib.hid (by unfold compF; rw [if_neg h0])
    have hl0 : ((l.length : Int) == 0) = false := by simp; intro e; rw [e] at h0; exact h0 rfl
    have HF : Hid (∀ w1, Only (fun _ => False) w w1 → Calls Try.prog 86 #[.slice ao l.length cap] w1 fun e w' => e = .returned (.bool true) ∧ Only (fun _ => False) w1 w') := Lib.hid (fun w1 ho => fits_any l w1 ao cap (hl.later ho) (by unfold maxLen; omega) hz)
    have HC : Hid (∀ w1, Only (fun _ => False) w w1 → Calls Try.prog 87 #[.slice ao l.length cap] w1 fun e w' => ∃ g fc, e = .returned (.slice (some ⟨g, 0, none⟩) l.length fc) ∧ Row (Since w1 w') w' (some ⟨g, 0, none⟩) l ∧ Only (fun _ => False) w1 w') := Lib.hid (fun w1 ho => copied_any l (fun e => h0 (by rw [e]; rfl)) w1 ao cap (hl.later ho) hz)
    have HLL : Hid (l.length ≤ maxLen) := Lib.hid (by unfold maxLen; omega)
    clear hl hz h0
    go_enter Try.func70, Try.ntmps70
    go_wp2_with fail
    refine (HF.out _ HO1.out).mono ?_
    rintro e w2 ⟨rfl, ho2⟩
    have HO2 := Lib.hid (HO1.out.same ho2)
    have HQ2 := Lib.hid (HQ1.out.only ho2 (fun e => e))
    have HZ2 : Hid (w.heap.size + 1 ≤ w2.heap.size) := Lib.hid (by have := ho2.size; simp at this; omega)
    clear ho2
    go_wp2_with fail
    refine (HC.out _ HO2.out).mono ?_
    rintro e w3 ⟨g, fc, rfl, hrow, ho3⟩
    have HROW := Lib.hid hrow
    have HO3 := Lib.hid (HO2.out.same ho3)
    have hq3 := HQ2.out.only ho3 (fun e => e)
    have HS3 := Lib.hid (hq3.set (.int .i64 4) (.int .i64 0) (.string s) (.slice (some ⟨g, 0, none⟩) l.length fc))
    obtain ⟨c0, c1, c2, c3⟩ := hq3.cells
    obtain ⟨f0, f1, f2, f3⟩ := hq3.free
    clear hrow ho3 hq3
    go_wp2_with fail
    have hc := HS3.out.1.cells
    rw [HE.out]
    refine bodyPost_ret (v := tv (T.mk 4 0 s l) (some ⟨g, 0, none⟩) fc) (results_term rfl _ _ w.heap.size _ _ _ _ rfl hc.1 hc.2.1 hc.2.2.1 hc.2.2.2) rfl ?_
    refine ⟨some ⟨g, 0, none⟩, fc, rfl, ?_, ⟨⟨by show (-9223372036854775808 : Int) ≤ 4; omega, by show (4 : Int) ≤ 9223372036854775807; omega⟩, ⟨by show (-9223372036854775808 : Int) ≤ 0; omega, by show (0 : Int) ≤ 9223372036854775807; omega⟩, HS.out, HLL.out⟩, Only.cut HO3.out HS3.out.2 (fun k e => by omega)⟩
    refine (HROW.out.only HS3.out.2 (fun q hq => hq.2) (fun q hq e => ?_)).mono (fun q hq => ⟨?_, Nat.lt_of_lt_of_le hq.2 HS3.out.2.size⟩)
    · have := hq.1; have := HZ2.out; omega
    · have := hq.1; have := HZ2.out; omega
end
end Go.Proofs.Ythfilpacmllhpab.terms
