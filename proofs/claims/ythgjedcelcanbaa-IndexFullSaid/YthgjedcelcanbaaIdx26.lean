
/- Selection by keys: the reference's table: at, from, Head, Next. -/
import Derived.Test.YthgjedcelcanbaaIdx21
namespace Go.Proofs.Ythgjedcelcanbaa.idx
set_option maxRecDepth 100000
open Go.RowKit Go.Proofs.Ythgjedcelcanbaa.own Go.Lib Go.Maps Go.WideMaps
/-- A pair: a number and a key. -/
structure Pr where
  id : Int
  key : Ky
def encP (e : Pr) : List Value := [.int .i64 e.id, .int .i64 e.key.k, .string e.key.s, .int .i64 e.key.n]
theorem liesP : Lies encP 4 := ⟨fun _ => rfl, by
  intro x u hu
  simp [encP] at hu
  rcases hu with rfl | rfl | rfl | rfl <;> rfl, by omega⟩
abbrev RowP (B : Nat) (ao : Option Addr) (cap : Nat) (xs : List Pr) (w : World) : Prop := RowOf encP 4 64 B ao cap xs w
theorem pr_cells {B : Nat} {ao : Option Addr} {cap : Nat} {xs : List Pr} {w : World} (h : RowP B ao cap xs w) {t : Nat} {x : Pr} (hx : xs[t]? = some x) : ∃ g, ao = some ⟨g, 0, none⟩ ∧ g < w.heap.size ∧ w.cell? ⟨g, t * 4, none⟩ = some (.int .i64 x.id) ∧ w.cell? ⟨g, t * 4 + 1, none⟩ = some (.int .i64 x.key.k) ∧ w.cell? ⟨g, t * 4 + 2, none⟩ = some (.string x.key.s) ∧ w.cell? ⟨g, t * 4 + 3, none⟩ = some (.int .i64 x.key.n) := by
  obtain ⟨g, rfl, _, hc⟩ := h.at liesP t x hx
  exact ⟨g, rfl, (h.head _ rfl).2.2, (hc 0 (by decide)).1, (hc 1 (by decide)).1, (hc 2 (by decide)).1, (hc 3 (by decide)).1⟩
/-- The reference's table in memory. -/
structure RT (B b : Nat) (M : List Pr) (ao : Option Addr) (cap : Nat) (W : World) : Prop where
  box : W.heap[b]? = some (.cells #[.slice ao M.length cap] 28 (0, 0))
  row : RowP B ao cap M W
section
variable {B b : Nat} {M : List Pr} {ao : Option Addr} {cap : Nat} {w W W' : World}
theorem RT.later (h : RT B b M ao cap W) (o : Only (fun _ => False) W W') : RT B b M ao cap W' :=
  ⟨by rw [o.block b (lt_of_block h.box) (fun e => e)]; exact h.box, h.row.only o (fun _ _ e => e)⟩
theorem RT.cell (h : RT B b M ao cap W) : W.cell? ⟨b, 0, none⟩ = some (.slice ao M.length cap) := by rw [cell_of_blk h.box]; rfl
/-- Where a number stands. -/
def atF (i : Int) (M : List Pr) : Option Nat := M.findIdx? (fun e => e.id == i)
def atI (i : Int) (M : List Pr) : Int := match atF i M with | some j => j | none => -1
theorem find_at {α : Type} {p : α → Bool} {l : List α} {j : Nat} {x : α} (hx : l[j]? = some x) (hp : p x = true) (hlt : ∀ (i : Nat) (y : α), i < j → l[i]? = some y → p y = false) : l.findIdx? p = some j := by
  rw [List.findIdx?_eq_some_iff_getElem]
  obtain ⟨hj, rfl⟩ := List.getElem?_eq_some_iff.1 hx
  refine ⟨hj, hp, fun i hi => ?_⟩
  have := hlt i _ hi (List.getElem?_eq_getElem (by omega))
  simp [this]
theorem find_no {α : Type} {p : α → Bool} {l : List α} (hlt : ∀ (i : Nat) (y : α), l[i]? = some y → p y = false) : l.findIdx? p = none := by
  rw [List.findIdx?_eq_none_iff]
  intro x hx
  obtain ⟨i, hi⟩ := List.mem_iff_getElem?.1 hx
  exact hlt i x hi
set_option maxHeartbeats 8000000 in
theorem at_any (h : RT B b M ao cap w) (i : Int) (hn : M.length ≤ 1000000) : Calls Try.prog 31 #[.pointer (some ⟨b, 0, none⟩), .int .i64 i] w fun e w' => e = .returned (.int .i64 (atI i M)) ∧ w' = w := by
  have HH := Lib.hid h
  have c0 := h.cell
  obtain ⟨n, hnn⟩ : ∃ n, n = M.length := ⟨_, rfl⟩
  rw [← hnn] at c0 hn
  have HN := Lib.hid hnn
  clear h hnn
  go_enter Try.func31, Try.ntmps31
  go_wp2_with fail
  go_loopw [5] (fun iv wr => ∃ j : Nat, iv = .int .i64 j ∧ j ≤ n ∧ wr = w ∧ Hid (∀ t y, t < j → M[t]? = some y → (y.id == i) = false)) (fun iv _ => n - (RowKit.intOf iv).toNat)
  case atStart => exact ⟨0, rfl, by omega, rfl, Lib.hid (fun t y ht => by omega)⟩
  case round =>
    obtain ⟨j, rfl, hj, rfl, hO⟩ := hrel
    by_cases hlt : j < n
    · obtain ⟨x, hx⟩ : ∃ x, M[j]? = some x := ⟨_, List.getElem?_eq_getElem (by rw [← HN.out]; exact hlt)⟩
      obtain ⟨g, rfl, hg, k0, _, _, _⟩ := pr_cells HH.out.row hx
      have HX := Lib.hid hx
      have hlti : (j : Int) < (n : Int) := by omega
      have hge : (0 : Int) ≤ (j : Int) := by omega
      have hwj : IntKind.i64.wrap ((j : Int) + 1) = ((j + 1 : Nat) : Int) := by rw [IntWalk.i64_in _ (by omega)]; omega
      clear hx
      cases he : (x.id == i)
      · have HE := Lib.hid he
        go_wp2_with fail
        go_roundw
        case rel =>
          refine ⟨j + 1, by go_num, by omega, by first | rfl | trivial, Lib.hid (fun t y ht hy => ?_)⟩
          by_cases htj : t < j
          · exact hO.out t y htj hy
          · obtain rfl : t = j := by omega
            rw [HX.out] at hy
            injection hy with hy
            rw [← hy]
            exact HE.out
        case measure => simp [RowKit.intOf]; omega
      · have hd : atI i M = (j : Int) := by unfold atI atF; rw [find_at HX.out he (fun t y ht hy => hO.out t y ht hy)]
        have HDD := Lib.hid hd
        clear hd
        go_wp2_with fail
        go_ret
        exact ⟨by rw [HDD.out]; rfl, rfl⟩
    · obtain rfl : j = n := by omega
      have hd : atI i M = -1 := by
        unfold atI atF
        rw [find_no (fun t y hy => hO.out t y (by have := (List.getElem?_eq_some_iff.1 hy).1; rw [HN.out]; exact this) hy)]
      have HDD := Lib.hid hd
      clear hd
      go_wp2_with fail
      go_ret
      exact ⟨by rw [HDD.out]; rfl, rfl⟩
/-- The first pair from a place on whose key meets another one. -/
def fromP (p : Nat) (k : Ky) (M : List Pr) : Option Pr := (M.drop p).find? (fun e => meetB e.key k)
theorem fromP_hit {p j : Nat} {k : Ky} {M : List Pr} {x : Pr} (hpj : p ≤ j) (hx : M[j]? = some x) (hm : meetB x.key k = true) (hlt : ∀ (t : Nat) (y : Pr), p ≤ t → t < j → M[t]? = some y → meetB y.key k = false) : fromP p k M = some x := by
  unfold fromP
  rw [List.find?_eq_some_iff_getElem]
  have hj := (List.getElem?_eq_some_iff.1 hx).1
  have hxe := (List.getElem?_eq_some_iff.1 hx).2
  refine ⟨hm, j - p, by simp; omega, ?_, fun q hq => ?_⟩
  · rw [List.getElem_drop]
    have : p + (j - p) = j := by omega
    simp only [this]
    exact hxe
  · rw [List.getElem_drop]
    have := hlt (p + q) _ (by omega) (by omega) (List.getElem?_eq_getElem (by omega))
    simp [this]
theorem fromP_no {p : Nat} {k : Ky} {M : List Pr} (hlt : ∀ (t : Nat) (y : Pr), p ≤ t → M[t]? = some y → meetB y.key k = false) : fromP p k M = none := by
  unfold fromP
  rw [List.find?_eq_none]
  intro x hx
  obtain ⟨i, hi⟩ := List.mem_iff_getElem?.1 hx
  rw [List.getElem?_drop] at hi
  simp [hlt (p + i) x (by omega) hi]
def ansP (o : Option Pr) : Value := .tuple #[.int .i64 ((o.map (·.id)).getD 0), .bool o.isSome]
set_option maxHeartbeats 16000000 in
theorem rfrom_any (h : RT B b M ao cap w) (p : Nat) (k : Ky) (hp : p ≤ 1000000) (hn : M.length ≤ 1000000) : Calls Try.prog 32 #[.pointer (some ⟨b, 0, none⟩), .int .i64 p, kyV k] w fun e w' => e = .returned (ansP (fromP p k M)) ∧ Only (fun _ => False) w w' := by
  obtain ⟨E, hE⟩ : ∃ E, E = w.alloc (.cells #[.int .i64 k.k, .string k.s, .int .i64 k.n] 32) := ⟨_, rfl⟩
  have hx : Three w.heap.size k E := by unfold Three; rw [hE]; exact heap_alloc_new _ _
  have ho : Only (fun _ => False) w E := by rw [hE]; exact Only.alloc _ _ _
  have HX := Lib.hid hx
  have HO := Lib.hid ho
  have HH := Lib.hid (h.later ho)
  obtain ⟨n, hnn⟩ : ∃ n, n = M.length := ⟨_, rfl⟩
  have c0 := HH.out.cell
  rw [← hnn] at c0 hn
  have HN := Lib.hid hnn
  clear h hnn hx ho c0
  go_enter Try.func32, Try.ntmps32
  go_upto_region 1 with fail
  rw [← hE]
  clear hE
  generalize w.heap.size = bk at *
  go_loopw [1] (fun iv wr => ∃ j : Nat, iv = .int .i64 j ∧ p ≤ j ∧ j ≤ 1000000 ∧ Hid (Only (fun _ => False) E wr ∧ ∀ (t : Nat) (y : Pr), p ≤ t → t < j → M[t]? = some y → meetB y.key k = false)) (fun iv _ => n - (RowKit.intOf iv).toNat)
  case atStart => exact ⟨p, rfl, by omega, hp, Lib.hid ⟨Only.refl _ _, fun t y h1 h2 => by omega⟩⟩
  case round =>
    obtain ⟨j, rfl, hpj, hjm, hO⟩ := hrel
    have c0 := (HH.out.later hO.out.1).cell
    rw [← HN.out] at c0
    by_cases hlt : j < n
    · obtain ⟨x, hx⟩ : ∃ x, M[j]? = some x := ⟨_, List.getElem?_eq_getElem (by rw [← HN.out]; exact hlt)⟩
      obtain ⟨g, rfl, hg, _, _, _, _⟩ := pr_cells HH.out.row hx
      have HXX := Lib.hid hx
      have HPJ := Lib.hid hpj
      have hlti : (j : Int) < (n : Int) := by omega
      have hge : (0 : Int) ≤ (j : Int) := by omega
      have hwj : IntKind.i64.wrap ((j : Int) + 1) = ((j + 1 : Nat) : Int) := by rw [IntWalk.i64_in _ (by omega)]; omega
      have HS : Hid (∀ W, Only (fun _ => False) wr W → W.cell? ⟨b, 0, none⟩ = some (.slice (some ⟨g, 0, none⟩) n cap) ∧ (W.cell? ⟨g, j * 4, none⟩ = some (.int .i64 x.id) ∧ W.cell? ⟨g, j * 4 + 1, none⟩ = some (.int .i64 x.key.k) ∧ W.cell? ⟨g, j * 4 + 2, none⟩ = some (.string x.key.s) ∧ W.cell? ⟨g, j * 4 + 3, none⟩ = some (.int .i64 x.key.n)) ∧ W.cell? ⟨bk, 0, none⟩ = some (.int .i64 k.k) ∧ W.cell? ⟨bk, 1, none⟩ = some (.string k.s) ∧ W.cell? ⟨bk, 2, none⟩ = some (.int .i64 k.n)) := Lib.hid (fun W o => by
        have o' := hO.out.1.same o
        have hr := HH.out.later o'
        obtain ⟨g', e, _, k0, k1, k2, k3⟩ := pr_cells hr.row HXX.out
        cases e
        have hc := hr.cell
        rw [← HN.out] at hc
        exact ⟨hc, ⟨k0, k1, k2, k3⟩, (HX.out.only o' (fun e => e)).cells⟩)
      have HME : Hid (∀ W, Calls Try.prog 26 #[.agg #[.int .i64 x.key.k, .string x.key.s, .int .i64 x.key.n], .agg #[.int .i64 k.k, .string k.s, .int .i64 k.n]] W fun e w' => e = .returned (.bool (meetB x.key k)) ∧ Only (fun _ => False) W w') := Lib.hid (fun W => rmeet_any x.key k W)
      clear hx hpj hg c0
      cases hm : meetB x.key k
      all_goals
        have HMM := Lib.hid hm
        rw [hm] at HME
        clear hm
        have hc0 := (HS.out wr (Only.refl _ _)).1
        go_upto_region 2 with fail
        clear hc0
        go_region_held3 (fun W => W.cell? ⟨b, 0, none⟩ = some (.slice (some ⟨g, 0, none⟩) n cap) ∧ (W.cell? ⟨g, j * 4, none⟩ = some (.int .i64 x.id) ∧ W.cell? ⟨g, j * 4 + 1, none⟩ = some (.int .i64 x.key.k) ∧ W.cell? ⟨g, j * 4 + 2, none⟩ = some (.string x.key.s) ∧ W.cell? ⟨g, j * 4 + 3, none⟩ = some (.int .i64 x.key.n)) ∧ W.cell? ⟨bk, 0, none⟩ = some (.int .i64 k.k) ∧ W.cell? ⟨bk, 1, none⟩ = some (.string k.s) ∧ W.cell? ⟨bk, 2, none⟩ = some (.int .i64 k.n)) (with_reducible first | exact HS.out _ HU.out | exact HS.out _ (Only.drew _ _) | exact HS.out _ (Only.refl _ _)) (first
          | (go_at_call 26; (with_reducible refine (HME.out _).mono ?_); rintro r u ⟨rfl, hou⟩; have HU : Hid (Only (fun _ => False) wr u) := Lib.hid ((Only.drew _ _).same hou); clear hou))
      · go_wp2_with fail
        go_roundw
        case rel =>
          refine ⟨j + 1, by go_num, by have := HPJ.out; omega, by omega, Lib.hid ⟨hO.out.1.same HU.out, fun t y h1 h2 hy => ?_⟩⟩
          by_cases htj : t < j
          · exact hO.out.2 t y h1 htj hy
          · obtain rfl : t = j := by omega
            rw [HXX.out] at hy
            injection hy with hy
            rw [← hy]
            exact HMM.out
        case measure => simp [RowKit.intOf]; omega
      · have hd : fromP p k M = some x := fromP_hit HPJ.out HXX.out HMM.out hO.out.2
        have HDD := Lib.hid hd
        clear hd
        obtain ⟨q0, ⟨q1, q2, q3, q4⟩, q5⟩ := HS.out u HU.out
        go_wp2_with fail
        go_ret2
        exact ⟨by rw [HDD.out]; rfl, (HO.out.same hO.out.1).same HU.out⟩
    · have hd : fromP p k M = none := fromP_no (fun t y h1 hy => hO.out.2 t y h1 (by have := (List.getElem?_eq_some_iff.1 hy).1; have := HN.out; omega) hy)
      have HDD := Lib.hid hd
      clear hd
      have hge : ¬ ((j : Int) < (n : Int)) := by omega
      go_wp2_with fail
      go_ret2
      exact ⟨by rw [HDD.out]; rfl, HO.out.same hO.out.1⟩
end
end Go.Proofs.Ythgjedcelcanbaa.idx
