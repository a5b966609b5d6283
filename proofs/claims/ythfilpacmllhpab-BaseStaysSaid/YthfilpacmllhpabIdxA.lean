/- Selection by keys: an entry in memory; where a place stands in a row, and what follows: 9 texts in one. -/
import Derived.Test.YthfilpacmllhpabRows
import Derived.Test.YthfilpacmllhpabOwn
import Derived.Lib.Hide
import Derived.Deep.LoopGhost
import Derived.Laws.CopyRow
import Derived.Lib.AppendZeros
import Derived.Lib.AppendZerosOnto
import Derived.Lib.SliceRun
import Derived.Lib.Walk
import Derived.Lib.Overlaps
import Derived.Laws.Externs
import Derived.Deep.RegionLaw
import Derived.Laws.OwnMore
import Derived.Shelf.RegionOpenPlain
import Derived.Deep.CutRange
import Derived.Deep.DeepCutAuto
import Derived.Deep.RegionHeld3
import Derived.Maps.OwnSet
import Derived.Maps.Views
import Derived.Maps.Keyed
import Derived.StringKeys
import Derived.MapViews
import Derived.DeepKeys4
/- Selection by keys: an entry in memory; where a place stands in a row. -/
namespace Go.Proofs.Ythfilpacmllhpab.idx
section
open Go.RowKit Go.Proofs.Ythfilpacmllhpab.own
/-- A key: its kind, a name, a number. -/
structure Ky where
  k : Int
  s : ByteArray
  n : Int
/-- An entry: its number, its key, its place. -/
structure En where
  id : Int
  key : Ky
  pl : Int
def encE (e : En) : List Value := [.int .i64 e.id, .int .i64 e.key.k, .string e.key.s, .int .i64 e.key.n, .int .i64 e.pl]
theorem liesE : Lies encE 5 := ⟨fun _ => rfl, by
  intro x u hu
  simp [encE] at hu
  rcases hu with rfl | rfl | rfl | rfl | rfl <;> rfl, by omega⟩
abbrev RowE (ao : Option Addr) (cap : Nat) (xs : List En) (w : World) : Prop := RowOf encE 5 122 0 ao cap xs w
theorem RowE.cells {ao : Option Addr} {cap : Nat} {xs : List En} {w : World} (h : RowE ao cap xs w) {t : Nat} {x : En} (hx : xs[t]? = some x) : ∃ g, ao = some ⟨g, 0, none⟩ ∧ g < w.heap.size ∧ w.cell? ⟨g, t * 5, none⟩ = some (.int .i64 x.id) ∧ w.cell? ⟨g, t * 5 + 1, none⟩ = some (.int .i64 x.key.k) ∧ w.cell? ⟨g, t * 5 + 2, none⟩ = some (.string x.key.s) ∧ w.cell? ⟨g, t * 5 + 3, none⟩ = some (.int .i64 x.key.n) ∧ w.cell? ⟨g, t * 5 + 4, none⟩ = some (.int .i64 x.pl) := by
  obtain ⟨g, rfl, _, hc⟩ := h.at liesE t x hx
  exact ⟨g, rfl, (h.head _ rfl).2.2, (hc 0 (by decide)).1, (hc 1 (by decide)).1, (hc 2 (by decide)).1, (hc 3 (by decide)).1, (hc 4 (by decide)).1⟩
theorem RowE.later {ao : Option Addr} {cap : Nat} {xs : List En} {w w' : World} (h : RowE ao cap xs w) (ho : Only (fun _ => False) w w') : RowE ao cap xs w' := h.only ho (fun _ _ e => e)
/-- The places rise. -/
def Rises (xs : List En) : Prop := xs.Pairwise (fun a b => a.pl < b.pl)
/-- How many stand at lower places. -/
def cntF (p : Int) (xs : List En) : Nat := xs.countP (fun e => decide (e.pl < p))
theorem cnt_le (p : Int) (xs : List En) : cntF p xs ≤ xs.length := List.countP_le_length
theorem cnt_at (p : Int) : ∀ (xs : List En) (i : Nat), i ≤ xs.length → (∀ t x, t < i → xs[t]? = some x → x.pl < p) → (∀ t x, i ≤ t → xs[t]? = some x → p ≤ x.pl) → cntF p xs = i := by
  intro xs
  induction xs with
  | nil => intro i hi _ _; simp at hi; simp [hi, cntF]
  | cons a r ih =>
    intro i hi h1 h2
    cases i with
    | zero =>
      have ha := h2 0 a (Nat.le_refl _) rfl
      have hr := ih 0 (Nat.zero_le _) (fun t x ht => absurd ht (Nat.not_lt_zero _)) (fun t x _ hx => h2 (t + 1) x (Nat.zero_le _) (by simpa using hx))
      unfold cntF at *
      rw [List.countP_cons_of_neg (by simp; omega), hr]
    | succ i =>
      have ha := h1 0 a (by omega) rfl
      have hr := ih i (by simpa using hi) (fun t x ht hx => h1 (t + 1) x (by omega) (by simpa using hx)) (fun t x ht hx => h2 (t + 1) x (by omega) (by simpa using hx))
      unfold cntF at *
      rw [List.countP_cons_of_pos (by simpa using ha), hr]
theorem Rises.at {xs : List En} (h : Rises xs) {i j : Nat} {x y : En} (hi : xs[i]? = some x) (hj : xs[j]? = some y) (hij : i < j) : x.pl < y.pl := by
  obtain ⟨h1, e1⟩ := List.getElem?_eq_some_iff.1 hi
  obtain ⟨h2, e2⟩ := List.getElem?_eq_some_iff.1 hj
  have := List.pairwise_iff_getElem.1 h i j h1 h2 hij
  rw [e1, e2] at this
  exact this
theorem Rises.le {xs : List En} (h : Rises xs) {i j : Nat} {x y : En} (hi : xs[i]? = some x) (hj : xs[j]? = some y) (hij : i ≤ j) : x.pl ≤ y.pl := by
  rcases Nat.eq_or_lt_of_le hij with rfl | hlt
  · rw [hi] at hj; cases hj; exact Int.le_refl _
  · exact Int.le_of_lt (h.at hi hj hlt)
def cmpF (x y : Int) : Int := if x < y then -1 else if y < x then 1 else 0
theorem nan_any (x : Int) (w : World) : Calls Try.prog 65 #[.int .i64 x] w fun e w' => e = .returned (.bool false) ∧ w' = w := by
  go_enter Try.func65, Try.ntmps65
  go_wp2_with fail
  go_ret
  exact ⟨by simp, rfl⟩
theorem compare_any (x y : Int) (w : World) : Calls Try.prog 46 #[.int .i64 x, .int .i64 y] w fun e w' => e = .returned (.int .i64 (cmpF x y)) ∧ w' = w := by
  unfold cmpF
  by_cases h1 : x < y
  · rw [if_pos h1]
    go_enter Try.func46, Try.ntmps46
    go_wp2_with ((refine (nan_any _ _).mono ?_); rintro e w' ⟨rfl, rfl⟩)
    go_ret
    exact ⟨rfl, rfl⟩
  · rw [if_neg h1]
    by_cases h2 : y < x
    · rw [if_pos h2]
      go_enter Try.func46, Try.ntmps46
      go_wp2_with ((refine (nan_any _ _).mono ?_); rintro e w' ⟨rfl, rfl⟩)
      go_ret
      exact ⟨rfl, rfl⟩
    · rw [if_neg h2]
      go_enter Try.func46, Try.ntmps46
      go_wp2_with ((refine (nan_any _ _).mono ?_); rintro e w' ⟨rfl, rfl⟩)
      go_ret
      exact ⟨rfl, rfl⟩
theorem ask_any (x : En) (p : Int) (w : World) : Calls Try.prog 91 #[.agg #[.int .i64 x.id, .int .i64 x.key.k, .string x.key.s, .int .i64 x.key.n, .int .i64 x.pl], .int .i64 p] w fun e w' => e = .returned (.int .i64 (cmpF x.pl p)) ∧ Only (fun _ => False) w w' := by
  have HO : Hid (Only (fun _ => False) w (w.alloc (.cells #[.int .i64 x.id, .int .i64 x.key.k, .string x.key.s, .int .i64 x.key.n, .int .i64 x.pl] 122))) := Lib.hid (Only.alloc _ _ _)
  have c4 : (w.alloc (.cells #[.int .i64 x.id, .int .i64 x.key.k, .string x.key.s, .int .i64 x.key.n, .int .i64 x.pl] 122)).cell? ⟨w.heap.size, 4, none⟩ = some (.int .i64 x.pl) := by rw [cell_of_blk (heap_alloc_new w _)]; rfl
  go_enter Try.func91, Try.ntmps91
  go_wp2_with fail
  refine (compare_any _ _ _).mono ?_
  rintro e w1 ⟨rfl, rfl⟩
  go_wp2_with fail
  go_ret
  exact ⟨rfl, HO.out⟩
set_option maxRecDepth 100000 in
set_option maxHeartbeats 4000000 in
theorem search_any (ao : Option Addr) (cap : Nat) (xs : List En) (p : Int) (w : World) (h : RowE ao cap xs w) (hs : Rises xs) (hl : xs.length ≤ 1000000) :
    Calls Try.prog 90 #[.slice ao xs.length cap, .int .i64 p, .func (.func 91) #[] #[]] w fun e w' => (∃ v, e = .returned (.tuple #[.int .i64 (cntF p xs), v])) ∧ Only (fun _ => False) w w' := by
  have HS := Lib.hid hs
  have HC : Hid (∀ W, Only (fun _ => False) w W → ∀ t x, xs[t]? = some x → ∃ g, ao = some ⟨g, 0, none⟩ ∧ g < W.heap.size ∧ W.cell? ⟨g, t * 5, none⟩ = some (.int .i64 x.id) ∧ W.cell? ⟨g, t * 5 + 1, none⟩ = some (.int .i64 x.key.k) ∧ W.cell? ⟨g, t * 5 + 2, none⟩ = some (.string x.key.s) ∧ W.cell? ⟨g, t * 5 + 3, none⟩ = some (.int .i64 x.key.n) ∧ W.cell? ⟨g, t * 5 + 4, none⟩ = some (.int .i64 x.pl)) := Lib.hid (fun W o t x hx => RowE.cells (h.later o) hx)
  obtain ⟨n, hn⟩ : ∃ n, n = xs.length := ⟨_, rfl⟩
  rw [← hn] at hl ⊢
  have HN := Lib.hid hn
  clear h hs hn
  go_enter Try.func90, Try.ntmps90
  go_wp2_with fail
  go_loopg [9, 10] n (fun gk s9 s10 wr => ∃ lo hi : Nat, s9 = .int .i64 lo ∧ s10 = .int .i64 hi ∧ lo ≤ hi ∧ hi ≤ n ∧ hi - lo ≤ gk ∧ Hid (Only (fun _ => False) w wr) ∧ Hid ((∀ t x, t < lo → xs[t]? = some x → x.pl < p) ∧ (∀ t x, hi ≤ t → xs[t]? = some x → p ≤ x.pl)))
  case atStart => exact ⟨0, n, rfl, rfl, Nat.zero_le _, Nat.le_refl _, by omega, Lib.hid (Only.refl _ _), Lib.hid ⟨fun t x ht => absurd ht (Nat.not_lt_zero _), fun t x h1 h2 => by
    have := (List.getElem?_eq_some_iff.1 h2).1
    have := HN.out
    omega⟩⟩
  case round =>
    obtain ⟨lo, hi, rfl, rfl, hlh, hin, hg, HO, I⟩ := hrel
    by_cases hlt : lo < hi
    · obtain ⟨y, hy⟩ : ∃ y, xs[(lo + hi) / 2]? = some y := ⟨_, List.getElem?_eq_getElem (by have := HN.out; omega)⟩
      obtain ⟨g, rfl, hgl, c0, c1, c2, c3, c4⟩ := HC.out _ HO.out _ _ hy
      have Y := Lib.hid hy
      clear hy
      by_cases hyx : y.pl < p
      · go_wp2_with fail
        refine (ask_any y p _).mono ?_
        rintro e w1 ⟨rfl, ho1⟩
        have HO1 := Lib.hid (HO.out.same ho1)
        have hc : (cmpF y.pl p) < 0 := by unfold cmpF; rw [if_pos hyx]; decide
        generalize cmpF y.pl p = cc at *
        clear ho1 c0 c1 c2 c3 c4
        go_wp2_with fail
        go_roundg (hi - ((lo + hi) / 2 + 1))
        case measure => omega
        case rel =>
          refine ⟨(lo + hi) / 2 + 1, hi, by rw [show ((lo : Int) + (hi : Int)) / 2 + 1 = (((lo + hi) / 2 + 1 : Nat) : Int) by omega], rfl, by omega, hin, Nat.le_refl _, HO1, Lib.hid ⟨fun t x ht hx => ?_, I.out.2⟩⟩
          have := HS.out.le hx Y.out (by omega)
          omega
      · go_wp2_with fail
        refine (ask_any y p _).mono ?_
        rintro e w1 ⟨rfl, ho1⟩
        have HO1 := Lib.hid (HO.out.same ho1)
        have hc : ¬ (cmpF y.pl p) < 0 := by unfold cmpF; rw [if_neg (by omega)]; split <;> decide
        generalize cmpF y.pl p = cc at *
        clear ho1 c0 c1 c2 c3 c4
        go_wp2_with fail
        go_roundg ((lo + hi) / 2 - lo)
        case measure => omega
        case rel =>
          refine ⟨lo, (lo + hi) / 2, rfl, by rw [show ((lo : Int) + (hi : Int)) / 2 = (((lo + hi) / 2 : Nat) : Int) by omega], by omega, by omega, Nat.le_refl _, HO1, Lib.hid ⟨I.out.1, fun t x ht hx => ?_⟩⟩
          have := HS.out.le Y.out hx ht
          omega
    · have : hi = lo := by omega
      subst this
      have HE : Hid (cntF p xs = hi) := Lib.hid (cnt_at p xs hi (by have := HN.out; omega) I.out.1 I.out.2)
      by_cases hn : hi < n
      · obtain ⟨y, hy⟩ : ∃ y, xs[hi]? = some y := ⟨_, List.getElem?_eq_getElem (by have := HN.out; omega)⟩
        obtain ⟨g, rfl, hgl, c0, c1, c2, c3, c4⟩ := HC.out _ HO.out _ _ hy
        clear hy
        go_wp2_with fail
        refine (ask_any y p _).mono ?_
        rintro e w1 ⟨rfl, ho1⟩
        have HO1 := Lib.hid (HO.out.same ho1)
        generalize cmpF y.pl p = cc at *
        clear ho1 c0 c1 c2 c3 c4
        go_wp2_with fail
        go_ret2
        rw [HE.out]
        exact ⟨⟨_, rfl⟩, HO1.out⟩
      · go_wp2_with fail
        go_ret2
        rw [HE.out]
        exact ⟨⟨_, rfl⟩, HO.out⟩
theorem find_any (ao : Option Addr) (cap : Nat) (xs : List En) (p : Int) (w : World) (h : RowE ao cap xs w) (hs : Rises xs) (hl : xs.length ≤ 1000000) :
    Calls Try.prog 72 #[.slice ao xs.length cap, .int .i64 p] w fun e w' => e = .returned (.int .i64 (cntF p xs)) ∧ Only (fun _ => False) w w' := by
  have H := Lib.hid (search_any ao cap xs p w h hs hl)
  clear h hs hl
  generalize xs.length = n at *
  go_enter Try.func72, Try.ntmps72
  go_wp2_with fail
  refine H.out.mono ?_
  rintro e w1 ⟨⟨v, rfl⟩, ho1⟩
  have HO := Lib.hid ho1
  clear ho1
  go_wp2_with fail
  go_ret
  exact ⟨rfl, HO.out⟩
end
end Go.Proofs.Ythfilpacmllhpab.idx
/- Selection by keys: copies and appends of wide items, at a row's block. -/
namespace Go.Proofs.Ythfilpacmllhpab.idx
section
set_option maxRecDepth 100000
open Go.RowKit Go.Proofs.Ythfilpacmllhpab.own Go.Lib
def lay (L : List Value) (o : Nat) (cs : List Value) : List Value := L.take o ++ cs ++ L.drop (o + cs.length)
theorem lay_len {L : List Value} {o : Nat} {cs : List Value} (h : o + cs.length ≤ L.length) : (lay L o cs).length = L.length := by simp [lay]; omega
theorem only_setRow (w : World) (g : Nat) (cs : Array Value) : Only (· = g) w (w.setRow g cs) :=
  ⟨rfl, rfl, rfl, by simp [World.setRow], fun k _ h => setRow_other w g k cs h⟩
theorem run_copy_wide {P : Program} (w : World) (dT sT ty elem : TypeId) (i : TypeInfo) (s : Nat) (hu : P.underlying dT = some (.slice elem)) (hi : P.info? elem = some i) (hs : i.size = s) (g o dLen dCap : Nat) (a : Addr) (sLen sCap : Nat) (cur : Array Value) (t : TypeId) (cs : List Value) (n : Nat)
    (hg : w.heap[g]? = some (.cells cur t (0, 0))) (hn : n = Nat.min sLen dLen) (hl : cs.length = n * s)
    (hsrc : ∀ j v, cs[j]? = some v → w.cell? (a.add j) = some v) (hfit : o + cs.length ≤ cur.size) (h1 : ∀ v ∈ cs, v.oneCell' = true) :
    (Builtin.copy_ #[dT, sT] ty #[.slice (some ⟨g, o, none⟩) dLen dCap, .slice (some a) sLen sCap]).run P w =
      .ok (goInt n) (w.setRow g (lay cur.toList o cs).toArray) := by
  have h2 := run_loadCells_list (P := P) w a cs hsrc
  rw [hl] at h2
  have hst := run_storeCells_at P g o t cs 0 cur w hg (by simpa using hfit) h1
  simp [Builtin.copy_, run_underlying hu, Builtin.lenOf, Builtin.firstCells, sizeOf, typeInfo, hi, hs, ← hn, h2, hst, lay]
theorem append_types {P : Program} (w : World) (t t' ty E E' : TypeId) (ht : P.underlying t = some (.slice E)) (ht' : P.underlying t' = some (.slice E')) (ao : Option Addr) (n c : Nat) (u : Value) :
    (Builtin.append_ #[t, t'] ty #[.slice ao n c, u]).run P w = (Builtin.append_ #[t, t] ty #[.slice ao n c, u]).run P w := by
  unfold Builtin.append_
  simp only [List.getElem?_toArray, List.getElem?_cons_zero, List.getElem?_cons_succ, Sem.run_bind, run_underlying ht, run_underlying ht', Result.andThen_ok, Sem.run_pure]
theorem run_append_wide {P : Program} (w : World) (t t' ty E E' : TypeId) (i : TypeInfo) (s : Nat) (ht : P.underlying t = some (.slice E)) (ht' : P.underlying t' = some (.slice E')) (hi : P.info? E = some i) (hs : i.size = s) (g o n c : Nat) (a : Addr) (m mc : Nat) (cur : Array Value) (tt : TypeId) (cs : List Value)
    (hg : w.heap[g]? = some (.cells cur tt (0, 0))) (hroom : n + m ≤ c) (hl : cs.length = m * s)
    (hsrc : ∀ j v, cs[j]? = some v → w.cell? (a.add j) = some v) (hfit : o + n * s + cs.length ≤ cur.size) (h1 : ∀ v ∈ cs, v.oneCell' = true) :
    (Builtin.append_ #[t, t'] ty #[.slice (some ⟨g, o, none⟩) n c, .slice (some a) m mc]).run P w =
      .ok (.slice (some ⟨g, o, none⟩) (n + m) c) (w.setRow g (lay cur.toList (o + n * s) cs).toArray) := by
  have h2 := run_loadCells_list (P := P) w a cs hsrc
  rw [hl] at h2
  have hst := run_storeCells_at P g (o + n * s) tt cs 0 cur w hg (by simpa using hfit) h1
  have hadd : (⟨g, o, none⟩ : Addr).add (n * s) = ⟨g, o + n * s, none⟩ := by unfold Addr.add; split <;> simp_all
  simp [Builtin.append_, run_underlying ht, run_underlying ht', Builtin.lenOf, Builtin.firstCells, sizeOf, typeInfo, hi, hs, h2, hroom, hadd, hst, lay]
theorem run_clear_wide {P : Program} (w : World) (t ty E : TypeId) (zz : Value) (s : Nat) (ht : P.underlying t = some (.slice E)) (hz : ∀ w, (zeroValue E).run P w = .ok zz w) (hzs : zz.cells.size = s) (g o n c : Nat) (cur : Array Value) (tt : TypeId)
    (hg : w.heap[g]? = some (.cells cur tt (0, 0))) (hn : 0 < n) (hfit : o + n * s ≤ cur.size) (h1 : ∀ v ∈ zz.cells.toList, v.oneCell' = true) :
    (Builtin.clear_ #[t] ty #[.slice (some ⟨g, o, none⟩) n c]).run P w = .ok (.tuple #[]) (w.setRow g (lay cur.toList o (Builtin.zeroCells zz.cells n).toList).toArray) := by
  have hlen : (Builtin.zeroCells zz.cells n).toList.length = n * s := by simp [Builtin.zeroCells, hzs]
  have hst := run_storeCells_at P g o tt (Builtin.zeroCells zz.cells n).toList 0 cur w hg (by simpa [hlen] using hfit) (by
    intro v hv
    simp only [Builtin.zeroCells, Array.toList_map, List.mem_map] at hv
    obtain ⟨k, hk, rfl⟩ := hv
    have hk' : k < n * zz.cells.size := by simpa using hk
    have hpos : 0 < zz.cells.size := by
      rcases Nat.eq_zero_or_pos zz.cells.size with h | h
      · rw [h] at hk'; simp at hk'
      · exact h
    have hlt := Nat.mod_lt k hpos
    rw [getElem!_pos zz.cells _ hlt]
    exact h1 _ (by simp))
  have hne : n ≠ 0 := by omega
  obtain ⟨m, rfl⟩ : ∃ m, n = m + 1 := ⟨n - 1, by omega⟩
  simp [Builtin.clear_, run_underlying ht, hz, hst, lay]
theorem infoE : (Try.prog.info? 122).map (fun i => (i.zero, i.size, i.bytes)) = some (some (.agg #[.int .i64 0, .int .i64 0, .string ⟨#[]⟩, .int .i64 0, .int .i64 0]), 5, 48) := by kernel_rfl
end
end Go.Proofs.Ythfilpacmllhpab.idx
/- Selection by keys: an entry more in a row. -/
namespace Go.Proofs.Ythfilpacmllhpab.idx
section
set_option maxRecDepth 100000
open Go.RowKit Go.Proofs.Ythfilpacmllhpab.own Go.Lib
section
variable {α : Type} {enc : α → List Value} {s : Nat}
/-- What a list that is read holds in memory. -/
def SrcOf (enc : α → List Value) (w : World) (ao : Option Addr) (xs : List α) : Prop := (ao = none → xs = []) ∧ ∀ ad, ao = some ad → ∀ j u, (xs.flatMap enc)[j]? = some u → w.cell? (ad.add j) = some u
theorem RowOf.src {E B : Nat} {ao : Option Addr} {cap : Nat} {xs : List α} {w : World} (h : RowOf enc s E B ao cap xs w) : SrcOf enc w ao xs := by
  refine ⟨fun e => ?_, fun ad e => ?_⟩
  · rcases h.2 with ⟨h1, h2⟩ | ⟨g', cap', cur, hv, _⟩
    · simp only [Value.slice.injEq] at h1
      exact List.eq_nil_of_length_eq_zero h1.2.1
    · simp only [Value.slice.injEq] at hv
      rw [e] at hv
      cases hv.1
  · obtain ⟨h1, _, _⟩ := h.head ad e
    subst e
    intro j u hu
    rw [h1]
    rw [h1] at h
    exact World.ownsRow.cells h (g := ad.block) rfl j u hu
theorem SrcOf.only {S : Nat → Prop} {w w' : World} {ao : Option Addr} {xs : List α} (h : SrcOf enc w ao xs) (ho : Only S w w') (hb : ∀ ad, ao = some ad → ad.block < w.heap.size ∧ ¬ S ad.block) : SrcOf enc w' ao xs :=
  ⟨h.1, fun ad e j u hu => (ho.cell (p := ad.add j) (by unfold Addr.add; split; exact (hb ad e).1; exact (hb ad e).1) (by unfold Addr.add; split; exact (hb ad e).2; exact (hb ad e).2)).trans (h.2 ad e j u hu)⟩
/-- append of a list that lies anywhere to a row of one's own. -/
theorem run_append_many {P : Program} (L : Go.Proofs.Ythfilpacmllhpab.own.Lies enc s) (t ty : TypeId) (B E : Nat) (i : TypeInfo) (zz : Value) (by_ : Nat) (ht : P.underlying t = some (.slice E)) (hi : P.info? E = some i) (hz : i.zero = some zz) (hsize : i.size = s) (hby : i.bytes = by_) (hzs : zz.cells.size = s) (hbb : by_ ≤ 1024)
    (W : World) (ao : Option Addr) (cap : Nat) (xs : List α) (hrow : RowOf enc s E B ao cap xs W) (bo : Option Addr) (bcap : Nat) (ys : List α) (hsrc : SrcOf enc W bo ys) (hlen : xs.length + ys.length ≤ 16777216) (hB : B ≤ W.heap.size) :
    ∃ ao' cap' w', (Builtin.append_ #[t, t] ty #[.slice ao xs.length cap, .slice bo ys.length bcap]).run P W = .ok (.slice ao' (xs.length + ys.length) cap') w' ∧ RowOf enc s E B ao' cap' (xs ++ ys) w' ∧ Only (RowAt ao) W w' ∧ NewRow W.heap.size ao ao' := by
  cases bo with
  | none =>
    have hy := hsrc.1 rfl
    subst hy
    refine ⟨ao, cap, W, ?_, by rw [List.append_nil]; exact hrow, Only.refl _ _, NewRow.refl _ _⟩
    simp only [List.length_nil, Nat.add_zero]
    rcases hrow.2 with ⟨h1, h2⟩ | ⟨g, cap', cur, hv, _, _, hnc, _⟩
    · rw [h1]
      simp [Builtin.append_, run_underlying ht, sizeOf, typeInfo, hi, Builtin.lenOf, Builtin.firstCells]
    · rw [hv]
      simp [Builtin.append_, run_underlying ht, sizeOf, typeInfo, hi, Builtin.lenOf, Builtin.firstCells, hnc, storeCells]
  | some ad =>
    have hl : (ys.flatMap enc).length = ys.length * s := flat_len L ys
    obtain ⟨v', w', hr, hown', hgrow, _, hat⟩ := run_append_own_at (P := P) W B t ty E i zz s by_ ht hi hz hsize hby hzs L.pos (.slice ao xs.length cap) xs.length (xs.flatMap enc) hrow ad ys.length bcap (ys.flatMap enc) hl (hsrc.2 ad rfl)
      (by intro u hu; obtain ⟨x, _, hx⟩ := List.mem_flatMap.1 hu; exact L.one x u hx) (by unfold maxLen; omega) (by have := Nat.mul_le_mul hlen hbb; omega) hB
    obtain ⟨fo, fc, rfl⟩ := owned_shape hown'
    refine ⟨fo, fc, w', hr, ?_, ?_, ?_⟩
    · unfold RowOf
      rw [List.length_append, List.flatMap_append]
      exact hown'
    · refine (Only.grown hgrow).mono ?_
      intro k _ hk
      cases ao with
      | none => simp [Value.ownBlock] at hk
      | some g0 => exact ⟨g0, rfl, by simpa [Value.ownBlock] using hk⟩
    · intro g0 hg
      subst hg
      rcases hat with hat | hat
      · cases ao with
        | none => simp [Value.ownBlock] at hat
        | some g1 =>
          have hg' := hrow.head g1 rfl
          have hn : RowOf enc s E B (some g0) fc (xs ++ ys) w' := by unfold RowOf; rw [List.length_append, List.flatMap_append]; exact hown'
          have hg2 := hn.head g0 rfl
          simp only [Value.ownBlock, Option.some.injEq] at hat
          left
          rw [hg'.1, hg2.1, hat]
      · right
        simp only [Value.ownBlock, Option.some.injEq] at hat
        omega
end
theorem wp_append_two {α : Type} {enc : α → List Value} {s : Nat} {P : Program} {ops : Array Oper} {rest : List Oper} {o : Oper} {a : Act} {Q : Exit → Act → World → Prop} (L : Go.Proofs.Ythfilpacmllhpab.own.Lies enc s) (hgd : o.guard = none) (sl x : Operand) (t t' : TypeId)
    (ho : o.op = .call { callee := .builtin .append, args := #[sl, x], argTypes := #[t, t'] }) (B E E' : Nat) (i : TypeInfo) (zz : Value) (by_ : Nat) (ht : P.underlying t = some (.slice E)) (ht' : P.underlying t' = some (.slice E')) (hi : P.info? E = some i) (hz : i.zero = some zz) (hsize : i.size = s) (hby : i.bytes = by_) (hzs : zz.cells.size = s) (hbb : by_ ≤ 1024)
    (W : World) (ao : Option Addr) (cap : Nat) (xs : List α) (hs : a.eval sl = .slice ao xs.length cap) (hrow : RowOf enc s E B ao cap xs W) (bo : Option Addr) (bcap : Nat) (ys : List α) (hx : a.eval x = .slice bo ys.length bcap) (hsrc : SrcOf enc W bo ys) (hlen : xs.length + ys.length ≤ 16777216) (hB : B ≤ W.heap.size)
    (h : ∀ ao' cap' w', RowOf enc s E B ao' cap' (xs ++ ys) w' → Only (RowAt ao) W w' → NewRow W.heap.size ao ao' → wpList P ops Q rest (a.put o.dst (.slice ao' (xs.length + ys.length) cap')) w') :
    wpList P ops Q (o :: rest) a W := by
  refine wpList_plain hgd fun K hK => ?_
  obtain ⟨ao', cap', w', hr, h1, h2, h3⟩ := run_append_many (P := P) L t o.type B E i zz by_ ht hi hz hsize hby hzs hbb W ao cap xs hrow bo bcap ys hsrc hlen hB
  rw [← append_types W t t' o.type E E' ht ht' ao xs.length cap _] at hr
  unfold Oper.wp execOp
  simp only [ho, resolve, invoke, builtin, Sem.run_bind, Sem.run_pure, Result.andThen_ok, List.map_toArray, List.map_cons, List.map_nil, hs, hx, hr]
  exact hK _ _ (h ao' cap' w' h1 h2 h3)
/-- An entry alone, in a block. -/
def Five (b : Nat) (e : En) (w : World) : Prop := w.heap[b]? = some (.cells #[.int .i64 e.id, .int .i64 e.key.k, .string e.key.s, .int .i64 e.key.n, .int .i64 e.pl] 122 (0, 0))
theorem Five.new (w : World) (e : En) : Five w.heap.size e (w.alloc (.cells #[.int .i64 e.id, .int .i64 e.key.k, .string e.key.s, .int .i64 e.key.n, .int .i64 e.pl] 122)) := heap_alloc_new w _
theorem Five.cells {b : Nat} {e : En} {w : World} (h : Five b e w) : w.cell? ⟨b, 0, none⟩ = some (.int .i64 e.id) ∧ w.cell? ⟨b, 1, none⟩ = some (.int .i64 e.key.k) ∧ w.cell? ⟨b, 2, none⟩ = some (.string e.key.s) ∧ w.cell? ⟨b, 3, none⟩ = some (.int .i64 e.key.n) ∧ w.cell? ⟨b, 4, none⟩ = some (.int .i64 e.pl) := by
  refine ⟨?_, ?_, ?_, ?_, ?_⟩ <;> (rw [cell_of_blk h]; rfl)
theorem Five.free {b : Nat} {e : En} {w : World} (h : Five b e w) : w.frozen? ⟨b, 0, none⟩ = false ∧ w.frozen? ⟨b, 1, none⟩ = false ∧ w.frozen? ⟨b, 2, none⟩ = false ∧ w.frozen? ⟨b, 3, none⟩ = false ∧ w.frozen? ⟨b, 4, none⟩ = false := ⟨free_of_blk h 0, free_of_blk h 1, free_of_blk h 2, free_of_blk h 3, free_of_blk h 4⟩
theorem Five.only {b : Nat} {e : En} {w w' : World} {S : Nat → Prop} (h : Five b e w) (ho : Only S w w') (hS : ¬ S b) : Five b e w' := by
  unfold Five at *
  rw [ho.block b (lt_of_block h) hS]
  exact h
theorem Five.src {b : Nat} {e : En} {w : World} (h : Five b e w) : SrcOf encE w (some ⟨b, 0, none⟩) [e] := by
  refine ⟨(fun x => nomatch x), fun ad hx j u hu => ?_⟩
  obtain rfl : _ = ad := Option.some.inj hx
  have he : (⟨b, 0, none⟩ : Addr).add j = ⟨b, j, none⟩ := by unfold Addr.add; split <;> simp_all
  rw [he, cell_of_blk h]
  simpa [encE] using hu
set_option maxHeartbeats 4000000 in
theorem insert_end (ao : Option Addr) (cap : Nat) (xs : List En) (e : En) (vb : Nat) (w : World) (h : RowE ao cap xs w) (hv : Five vb e w) (hl : xs.length ≤ 1000000) :
    Calls Try.prog 71 #[.slice ao xs.length cap, .int .i64 xs.length, .slice (some ⟨vb, 0, none⟩) 1 1] w fun r w' => ∃ ao' cap', r = .returned (.slice ao' (xs.length + 1) cap') ∧ RowE ao' cap' (xs ++ [e]) w' ∧ Only (RowAt ao) w w' ∧ NewRow w.heap.size ao ao' := by
  have hcap := h.cap_ge
  obtain ⟨i0, hi0, hz0, hz1, hz2⟩ := info_parts infoE
  have hsl : ∀ (n : Nat) (a : Option Addr) (c : Nat), n ≤ c → True := fun _ _ _ _ => trivial
  have hc1 : (xs.length : Int) ≤ (cap : Int) := by omega
  have HR := Lib.hid h
  have HV := Lib.hid hv
  have HL := Lib.hid hl
  have hcm : cap ≤ 9223372036854775807 := by have := hcap.2; unfold maxLen at this; omega
  clear h hv hsl
  obtain ⟨n, hn⟩ : ∃ n, n = xs.length := ⟨_, rfl⟩
  rw [← hn] at hcap hc1 ⊢
  have hl' : n ≤ 1000000 := by rw [hn]; exact HL.out
  have HN := Lib.hid hn
  clear hn
  go_enter Try.func71, Try.ntmps71
  go_wp2_with (first
    | (at_builtin; refine wp_append_two liesE rfl (.tmp 23) (.tmp 24) 115 114 rfl 0 122 122 i0 _ 48 Try.underlying115 Try.underlying114 hi0 hz0 hz1 hz2 rfl (by omega) w ao cap xs (by rw [← HN.out]; rfl) HR.out (some ⟨vb, 0, none⟩) 1 [e] rfl HV.out.src (by simp; omega) (Nat.zero_le _) ?_
       intro ao2 cap2 w2 hrow2 ho2 hnew2
       rw [← HN.out, show n + [e].length = n + 1 by simp]
       have HR2 := Lib.hid hrow2
       have HO2 := Lib.hid ho2
       have HN2 := Lib.hid hnew2
       clear hrow2 ho2 hnew2)
    | fail)
  all_goals
    go_ret
    exact ⟨ao2, cap2, rfl, HR2.out, HO2.out, HN2.out⟩
end
end Go.Proofs.Ythfilpacmllhpab.idx
/- Selection by keys: an entry ahead of a row. -/
namespace Go.Proofs.Ythfilpacmllhpab.idx
section
set_option maxRecDepth 100000
open Go.RowKit Go.Proofs.Ythfilpacmllhpab.own Go.Lib
theorem lay_front {L F V : List Value} (hV : V.length = 5) (hL : 5 + F.length ≤ L.length) : (lay (lay L 5 F) 0 V).take (5 + F.length) = V ++ F := by
  unfold lay
  simp only [List.take_zero, List.nil_append, Nat.zero_add, hV]
  rw [List.take_append, hV, List.take_of_length_le (by omega), List.append_assoc, List.drop_append]
  have h1 : (L.take 5).length = 5 := by rw [List.length_take]; omega
  rw [h1, List.drop_of_length_le (by omega), List.nil_append, Nat.sub_self, List.drop_zero, Nat.add_sub_cancel_left, List.take_append]
  rw [List.take_of_length_le (Nat.le_refl _), Nat.sub_self, List.take_zero, List.append_nil]
theorem lay_front2 {L F V : List Value} (hV : V.length = 5) (hL : 5 + F.length ≤ L.length) : (lay (lay L 0 V) 5 F).take (5 + F.length) = V ++ F := by
  unfold lay
  simp only [List.take_zero, List.nil_append, Nat.zero_add, hV]
  have h1 : (V ++ List.drop 5 L).take 5 = V := by rw [List.take_append, hV, List.take_of_length_le (by omega), Nat.sub_self, List.take_zero, List.append_nil]
  rw [h1, List.append_assoc, List.take_append, hV, List.take_of_length_le (by omega), Nat.add_sub_cancel_left, List.take_append, List.take_of_length_le (Nat.le_refl _), Nat.sub_self, List.take_zero, List.append_nil]
theorem RowE.block {ao : Option Addr} {cap : Nat} {xs : List En} {w : World} (h : RowE ao cap xs w) (hn : 0 < xs.length) : ∃ g cur, ao = some ⟨g, 0, none⟩ ∧ w.heap[g]? = some (.cells cur 122 (0, 0)) ∧ xs.length ≤ cap ∧ cap ≤ maxLen ∧ cur.size = cap * 5 ∧ cur.toList.take (xs.length * 5) = xs.flatMap encE := by
  rcases h.2 with ⟨h1, h2⟩ | ⟨g, cap', cur, hv, _, hb, h3, h4, h5, h6⟩
  · omega
  · simp only [Value.slice.injEq] at hv
    obtain ⟨rfl, _, rfl⟩ := hv
    exact ⟨g, cur, rfl, hb, h3, h4, h5, h6⟩
theorem RowE.make {g cap : Nat} {cur : Array Value} {xs : List En} {w : World} (hb : w.heap[g]? = some (.cells cur 122 (0, 0))) (hn : xs.length ≤ cap) (hm : cap ≤ maxLen) (hs : cur.size = cap * 5) (ht : cur.toList.take (xs.length * 5) = xs.flatMap encE) : RowE (some ⟨g, 0, none⟩) cap xs w :=
  ⟨flat_len liesE xs, .inr ⟨g, cap, cur, rfl, Nat.zero_le _, hb, hn, hm, hs, ht⟩⟩
theorem overlaps_apart (w : World) (vb g o lb cb : Nat) (e : En) (cur : Array Value) (hv : Five vb e w) (hb : w.heap[g]? = some (.cells cur 122 (0, 0))) (hc : cur.size ≠ 0) (hne : vb ≠ g) :
    (callFunc 88 #[.slice (some ⟨vb, 0, none⟩) 1 1, .slice (some ⟨g, o, none⟩) lb cb]).run Try.prog w = .ok (.value (.bool false)) w := by
  obtain ⟨i0, hi0, hz0, hz1, hz2⟩ := info_parts infoE
  have hv' := hv
  unfold Five at hv'
  rw [run_callFunc_extern Try.func88 (by kernel_rfl) (by kernel_rfl) (by kernel_rfl) (e := Extern.SlicesOverlaps.overlaps #[114, 114] #[4]) (by kernel_rfl),
    Lib.run_overlaps_apart w 114 4 122 Try.underlying114 5 (fun w => by simp [sizeOf, typeInfo, hi0, hz1]) ⟨vb, 0, none⟩ ⟨g, o, none⟩ 1 1 lb cb hne 122 122 5 cur.size
      (by simp [World.shape?, hv']) (by simp [World.shape?, hb]) hc (free_of_blk hv' 0) (free_of_blk hv' 5)]
  rfl
theorem wpList_copy_is {P : Program} (w : World) {ops : Array Oper} {rest : List Oper} {o : Oper} {a : Act} {Q : Exit → Act → World → Prop} (hgd : o.guard = none) (d s : Operand) (t t' : TypeId)
    (ho : o.op = .call { callee := .builtin .copy, args := #[d, s], argTypes := #[t, t'] }) (v u : Value) (hd : a.eval d = v) (hs : a.eval s = u) {v' : Value} {w' : World}
    (hr : (Builtin.copy_ #[t, t'] o.type #[v, u]).run P w = .ok v' w') (h : wpList P ops Q rest (a.put o.dst v') w') : wpList P ops Q (o :: rest) a w := by
  refine wpList_plain hgd fun _ hK => ?_
  unfold Oper.wp execOp
  simp only [ho, resolve, invoke, builtin, Sem.run_bind, Sem.run_pure, Result.andThen_ok, List.map_toArray, List.map_cons, List.map_nil, hd, hs, hr]
  exact hK _ _ h
theorem step_copy_is {P : Program} {ops : Array Oper} {o : Oper} {a : Act} {w : World} {K : Act → World → Prop} {Q : Exit → Act → World → Prop} {E : Prop}
    (hg : o.guard = none) (d x : Operand) (dT sT : TypeId) (hop : o.op = Op.call { callee := Callee.builtin Builtin.copy, args := #[d, x], argTypes := #[dT, sT] })
    (v u : Value) (hd : a.eval d = v) (hx : a.eval x = u) {v' : Value} {w' : World} (hr : (Builtin.copy_ #[dT, sT] o.type #[v, u]).run P w = .ok v' w') (hK : K (a.put o.dst v') w') :
    if Region.wanted o (yielded ops a.tmps) = true then Oper.wp P o a w K Q else E := by
  have hw : Region.wanted o (yielded ops a.tmps) = true := by simp [Region.wanted, hg]
  rw [if_pos hw]
  unfold Oper.wp
  simp [execOp, hop, resolve, invoke, builtin, hd, hx, hr, Result.andThen]
  exact hK
set_option maxHeartbeats 8000000 in
theorem insert_room (g cap : Nat) (xs : List En) (e : En) (vb : Nat) (w : World) (h : RowE (some ⟨g, 0, none⟩) cap xs w) (hv : Five vb e w) (hl : xs.length ≤ 1000000) (h0 : 0 < xs.length) (hne : vb ≠ g) (hroom : xs.length + 1 ≤ cap) :
    Calls Try.prog 71 #[.slice (some ⟨g, 0, none⟩) xs.length cap, .int .i64 0, .slice (some ⟨vb, 0, none⟩) 1 1] w fun r w' => r = .returned (.slice (some ⟨g, 0, none⟩) (xs.length + 1) cap) ∧ RowE (some ⟨g, 0, none⟩) cap (e :: xs) w' ∧ Only (· = g) w w' := by
  obtain ⟨g', cur, hg', hb, _, hm, hs, ht⟩ := h.block h0
  obtain rfl : g = g' := by simpa using hg'
  obtain ⟨i0, hi0, hz0, hz1, hz2⟩ := info_parts infoE
  obtain ⟨n, hn⟩ : ∃ n, n = xs.length := ⟨_, rfl⟩
  have hfl : (xs.flatMap encE).length = n * 5 := by rw [hn]; exact flat_len liesE xs
  have hVl : (encE e).length = 5 := rfl
  have hone : ∀ v ∈ xs.flatMap encE, v.oneCell' = true := fun v hv => by
    obtain ⟨x, _, hx⟩ := List.mem_flatMap.1 hv
    exact liesE.one x v hx
  rw [← hn] at h0 hroom hl ht ⊢
  have hL5 : 5 + (xs.flatMap encE).length ≤ cur.toList.length := by rw [hfl, Array.length_toList, hs]; omega
  obtain ⟨W1, hW1⟩ : ∃ W1, W1 = w.drew.setRow g (lay cur.toList 5 (xs.flatMap encE)).toArray := ⟨_, rfl⟩
  obtain ⟨W2, hW2⟩ : ∃ W2, W2 = W1.setRow g (lay (lay cur.toList 5 (xs.flatMap encE)) 0 (encE e)).toArray := ⟨_, rfl⟩
  have hb1 : W1.heap[g]? = some (.cells (lay cur.toList 5 (xs.flatMap encE)).toArray 122 (0, 0)) := by rw [hW1]; exact setRow_heap w.drew g cur _ _ _ hb
  have hb2 : W2.heap[g]? = some (.cells (lay (lay cur.toList 5 (xs.flatMap encE)) 0 (encE e)).toArray 122 (0, 0)) := by rw [hW2]; exact setRow_heap W1 g _ _ _ _ hb1
  have o1 : Only (· = g) w W1 := by rw [hW1]; exact (Only.drew _ _).same (only_setRow _ _ _)
  have o2 : Only (· = g) w W2 := by rw [hW2]; exact o1.same (only_setRow _ _ _)
  have hcp1 : ∀ ty dc sc, (Builtin.copy_ #[115, 115] ty #[.slice (some ⟨g, 5, none⟩) n dc, .slice (some ⟨g, 0, none⟩) (n + 1) sc]).run Try.prog w.drew = .ok (goInt n) W1 := fun ty dc sc => by
    rw [hW1]
    refine run_copy_wide w.drew _ _ ty 122 i0 5 Try.underlying115 hi0 hz1 g 5 n dc ⟨g, 0, none⟩ (n + 1) sc cur 122 (xs.flatMap encE) n hb (by simp only [Nat.min_def]; split <;> omega) hfl (fun j v hj => ?_) (by rw [hs]; omega) hone
    have he : (⟨g, 0, none⟩ : Addr).add j = ⟨g, j, none⟩ := by unfold Addr.add; split <;> simp_all
    have hlt := (List.getElem?_eq_some_iff.1 hj).1
    rw [he, cell_of_blk (w := w.drew) hb]
    rw [← ht, List.getElem?_take] at hj
    split at hj
    · simpa using hj
    · cases hj
  have hcp2 : ∀ ty dc, (Builtin.copy_ #[115, 114] ty #[.slice (some ⟨g, 0, none⟩) (n + 1) dc, .slice (some ⟨vb, 0, none⟩) 1 1]).run Try.prog W1 = .ok (goInt (1 : Nat)) W2 := fun ty dc => by
    rw [hW2]
    have hv1 : Five vb e W1 := hv.only o1 hne
    have := run_copy_wide W1 115 114 ty 122 i0 5 Try.underlying115 hi0 hz1 g 0 (n + 1) dc ⟨vb, 0, none⟩ 1 1 _ 122 (encE e) 1 hb1 (by simp only [Nat.min_def]; split <;> omega) (by rw [hVl]) (fun j v hj => hv1.src.2 _ rfl j v (by simpa using hj)) (by simp only [List.size_toArray]; rw [lay_len (by rw [hfl, Array.length_toList, hs]; omega), hVl, Array.length_toList, hs]; omega) (fun v hv => liesE.one e v hv)
    simpa using this
  have hov : ∀ lb cb, (callFunc 88 #[.slice (some ⟨vb, 0, none⟩) 1 1, .slice (some ⟨g, 5, none⟩) lb cb]).run Try.prog w = .ok (.value (.bool false)) w := fun lb cb => overlaps_apart w vb g 5 lb cb e cur hv hb (by omega) hne
  have HF : Hid (RowE (some ⟨g, 0, none⟩) cap (e :: xs) W2 ∧ Only (· = g) w W2) := Lib.hid ⟨RowE.make hb2 (by simp; omega) hm (by simp only [List.size_toArray]; rw [lay_len (by rw [lay_len (by rw [hfl, Array.length_toList, hs]; omega), hVl, Array.length_toList, hs]; omega), lay_len (by rw [hfl, Array.length_toList, hs]; omega), Array.length_toList, hs]) (by
    have h5 : (e :: xs).length * 5 = 5 + (xs.flatMap encE).length := by rw [hfl, hn]; simp; omega
    rw [h5, List.flatMap_cons]
    exact lay_front hVl hL5), o2⟩
  have hcm : cap ≤ 9223372036854775807 := by unfold maxLen at hm; omega
  have hz : ¬ ((0 : Int) = (n : Int)) := by omega
  have hz' : ((0 : Int) == (n : Int)) = false := by simpa using hz
  have hw1 : IntKind.i64.wrap ((n : Int) + 1) = (n : Int) + 1 := IntWalk.i64_in _ (by omega)
  have hc1 : ¬ cap = 1 := by omega
  have hgt : ¬ ((n : Int) + 1 > (cap : Int)) := by omega
  have hi1 : (n : Int) + 1 ≤ (cap : Int) := by omega
  have htn : ((n : Int) + 1).toNat = n + 1 := by omega
  have hc0 : ¬ cap = 0 := by omega
  have mixed : Try.prog.follows Departure.mixedOrders = true := by kernel_rfl
  have hwr1 : IntKind.i64.wrap 1 = 1 := by decide
  have h11 : (1 : Int) ≤ (n : Int) + 1 := by omega
  have h00 : (0 : Int) ≤ (n : Int) + 1 := by omega
  clear hb hb1 hb2 o1 o2 hW1 hW2 hone hfl hL5 ht hs hv h hn hg'
  go_enter Try.func71, Try.ntmps71
  go_wp2_with (simp only [hov])
  go_region_law_o (refine step_copy_is rfl _ _ 115 115 rfl _ _ (by simp [Act.eval, Act.put]) (by simp [Act.eval, Act.put]) (hcp1 _ _ _) ?_)
  all_goals
    go_wp2_with (refine wpList_copy_is _ rfl _ _ 115 114 rfl _ _ rfl rfl (hcp2 _ _) ?_)
    go_ret
    exact ⟨rfl, HF.out⟩
end
end Go.Proofs.Ythfilpacmllhpab.idx
/- Selection by keys: an entry ahead of a row that has no room; a row with an entry more. -/
namespace Go.Proofs.Ythfilpacmllhpab.idx
section
set_option maxRecDepth 100000
open Go.RowKit Go.Proofs.Ythfilpacmllhpab.own Go.Lib
theorem Only.cut {S : Nat → Prop} {a b c : World} (h : Only (fun _ => False) a b) (h' : Only S b c) (hS : ∀ k, S k → a.heap.size ≤ k) : Only (fun _ => False) a c :=
  h.trans h' (fun k hk e => by have := hS k e; omega)
set_option maxHeartbeats 8000000 in
theorem insert_grow (g cap : Nat) (xs : List En) (e : En) (vb : Nat) (w : World) (h : RowE (some ⟨g, 0, none⟩) cap xs w) (hv : Five vb e w) (hl : xs.length ≤ 1000000) (h0 : 0 < xs.length) (hroom : cap < xs.length + 1) :
    Calls Try.prog 71 #[.slice (some ⟨g, 0, none⟩) xs.length cap, .int .i64 0, .slice (some ⟨vb, 0, none⟩) 1 1] w fun r w' => ∃ cap', r = .returned (.slice (some ⟨w.heap.size, 0, none⟩) (xs.length + 1) cap') ∧ RowE (some ⟨w.heap.size, 0, none⟩) cap' (e :: xs) w' ∧ Only (fun _ => False) w w' := by
  obtain ⟨g', cur, hg', hb, hnc, hm, hs, ht⟩ := h.block h0
  obtain rfl : g = g' := by simpa using hg'
  obtain ⟨i0, hi0, hz0, hz1, hz2⟩ := info_parts infoE
  obtain ⟨n, hn⟩ : ∃ n, n = xs.length := ⟨_, rfl⟩
  have hfl : (xs.flatMap encE).length = n * 5 := by rw [hn]; exact flat_len liesE xs
  have hVl : (encE e).length = 5 := rfl
  have hone : ∀ v ∈ xs.flatMap encE, v.oneCell' = true := fun v hv => by
    obtain ⟨x, _, hx⟩ := List.mem_flatMap.1 hv
    exact liesE.one x v hx
  rw [← hn] at h0 hroom hl ht hnc ⊢
  have hold : (Builtin.firstCells i0.size 0 (.slice (some ⟨g, 0, none⟩) 0 cap)).run Try.prog w.drew = .ok ([] : List Value).toArray w.drew := run_firstCells_some (w := w.drew) i0.size 0 ⟨g, 0, none⟩ 0 cap [] (by simp) (fun j v hj => by simp at hj)
  have hgr : n + 1 ≤ grownCap w (0 + (n + 1)) cap 122 := by have := grownCap_ge w (0 + (n + 1)) cap 122; omega
  have hle : grownCap w (0 + (n + 1)) cap 122 ≤ maxLen := grownCap_le_maxLen w (0 + (n + 1)) cap 122 (by unfold maxLen; omega)
  have hrz0 := fun ty => Lib.run_append_grow_zeros w 115 3 ty 122 i0 _ .i64 .i64 Try.underlying115 Try.underlying3 hi0 hz0 (some ⟨g, 0, none⟩) 0 cap [] hold (n + 1) (by omega) (by omega) (by omega) (by omega) (by rw [hz2]; omega) (growslice_fits (by omega) (by rw [hz2]; omega))
  rw [Nat.zero_add] at hgr hle
  simp only [Nat.zero_add] at hrz0
  obtain ⟨Z, hZ, hZs⟩ : ∃ Z : Array Value, Z = ([] : List Value).toArray ++ Builtin.zeroCells (Value.agg #[.int .i64 0, .int .i64 0, .string ⟨#[]⟩, .int .i64 0, .int .i64 0]).cells (n + 1) ++ Builtin.zeroCells (Value.agg #[.int .i64 0, .int .i64 0, .string ⟨#[]⟩, .int .i64 0, .int .i64 0]).cells (grownCap w (n + 1) cap 122 - (n + 1)) ∧ Z.size = grownCap w (n + 1) cap 122 * 5 := by
    refine ⟨_, rfl, ?_⟩
    simp [Builtin.zeroCells, Value.cells]
    omega
  rw [← hZ] at hrz0
  clear hZ hold
  generalize grownCap w (n + 1) cap 122 = G at *
  obtain ⟨W0, hW0⟩ : ∃ W0, W0 = w.drew.alloc (.cells Z 122) := ⟨_, rfl⟩
  have hb0 : W0.heap[w.heap.size]? = some (.cells Z 122 (0, 0)) := by rw [hW0]; exact heap_alloc_new w.drew _
  have o0 : Only (fun _ => False) w W0 := by rw [hW0]; exact (Only.drew _ _).same (Only.alloc _ _ _)
  have hrz : ∀ ty, (Builtin.append_ #[115, 3] ty #[.slice (some ⟨g, 0, none⟩) 0 cap, .int .i64 ((n : Int) + 1)]).run Try.prog w = .ok (.slice (some ⟨w.heap.size, 0, none⟩) (n + 1) G) W0 := fun ty => by
    have := hrz0 ty
    rw [← hW0] at this
    exact this
  have hgb : g < w.heap.size := lt_of_block hb
  have hbg0 : W0.heap[g]? = some (.cells cur 122 (0, 0)) := by rw [o0.block g hgb (fun e => e)]; exact hb
  have hv0 : Five vb e W0 := hv.only o0 (fun e => e)
  have hvb : vb < w.heap.size := lt_of_block hv
  obtain ⟨W1, hW1⟩ : ∃ W1, W1 = W0.setRow w.heap.size (lay Z.toList 0 (encE e)).toArray := ⟨_, rfl⟩
  obtain ⟨W2, hW2⟩ : ∃ W2, W2 = W1.drew.setRow w.heap.size (lay (lay Z.toList 0 (encE e)) 5 (xs.flatMap encE)).toArray := ⟨_, rfl⟩
  have hlz : (lay Z.toList 0 (encE e)).length = G * 5 := by rw [lay_len (by rw [hVl, Array.length_toList, hZs]; omega), Array.length_toList, hZs]
  have hb1 : W1.heap[w.heap.size]? = some (.cells (lay Z.toList 0 (encE e)).toArray 122 (0, 0)) := by rw [hW1]; exact setRow_heap W0 _ Z _ _ _ hb0
  have hb2 : W2.heap[w.heap.size]? = some (.cells (lay (lay Z.toList 0 (encE e)) 5 (xs.flatMap encE)).toArray 122 (0, 0)) := by rw [hW2]; exact setRow_heap W1.drew _ _ _ _ _ hb1
  have o1 : Only (· = w.heap.size) W0 W1 := by rw [hW1]; exact only_setRow _ _ _
  have hbg1 : W1.drew.heap[g]? = some (.cells cur 122 (0, 0)) := by
    show W1.heap[g]? = _
    rw [o1.block g (lt_of_block hbg0) (by omega)]; exact hbg0
  have o2 : Only (· = w.heap.size) W0 W2 := by rw [hW2]; exact (o1.same (Only.drew _ _)).same (only_setRow _ _ _)
  have hcp1 : ∀ ty dc, (Builtin.copy_ #[115, 114] ty #[.slice (some ⟨w.heap.size, 0, none⟩) (n + 1) dc, .slice (some ⟨vb, 0, none⟩) 1 1]).run Try.prog W0 = .ok (goInt (1 : Nat)) W1 := fun ty dc => by
    rw [hW1]
    exact run_copy_wide W0 115 114 ty 122 i0 5 Try.underlying115 hi0 hz1 w.heap.size 0 (n + 1) dc ⟨vb, 0, none⟩ 1 1 _ 122 (encE e) 1 hb0 (by simp only [Nat.min_def]; split <;> omega) (by rw [hVl]) (fun j v hj => hv0.src.2 _ rfl j v (by simpa using hj)) (by rw [hVl, hZs]; omega) (fun v hv => liesE.one e v hv)
  have hcp2 : ∀ ty dc sc, (Builtin.copy_ #[115, 115] ty #[.slice (some ⟨w.heap.size, 5, none⟩) n dc, .slice (some ⟨g, 0, none⟩) n sc]).run Try.prog W1.drew = .ok (goInt n) W2 := fun ty dc sc => by
    rw [hW2]
    have := run_copy_wide W1.drew 115 115 ty 122 i0 5 Try.underlying115 hi0 hz1 w.heap.size 5 n dc ⟨g, 0, none⟩ n sc _ 122 (xs.flatMap encE) n hb1 (by simp only [Nat.min_def]; split <;> omega) hfl (fun j v hj => by
      have he : (⟨g, 0, none⟩ : Addr).add j = ⟨g, j, none⟩ := by unfold Addr.add; split <;> simp_all
      rw [he, cell_of_blk hbg1]
      rw [← ht, List.getElem?_take] at hj
      split at hj
      · simpa using hj
      · cases hj) (by simp only [List.size_toArray]; rw [hlz, hfl]; omega) hone
    simpa using this
  have HF : Hid (RowE (some ⟨w.heap.size, 0, none⟩) G (e :: xs) W2 ∧ Only (fun _ => False) w W2) := Lib.hid ⟨RowE.make hb2 (by simp; omega) hle (by simp only [List.size_toArray]; rw [lay_len (by rw [hfl, hlz]; omega), hlz]) (by
    have h5 : (e :: xs).length * 5 = 5 + (xs.flatMap encE).length := by rw [hfl, hn]; simp; omega
    rw [h5, List.flatMap_cons]
    exact lay_front2 hVl (by rw [hfl, Array.length_toList, hZs]; omega)), Only.cut o0 o2 (fun k e => by have e' : k = w.heap.size := e; omega)⟩
  have hcm : cap ≤ 9223372036854775807 := by unfold maxLen at hm; omega
  have hGm : G ≤ 9223372036854775807 := by unfold maxLen at hle; omega
  have hz : ¬ ((0 : Int) = (n : Int)) := by omega
  have hz' : ((0 : Int) == (n : Int)) = false := by simpa using hz
  have hw1 : IntKind.i64.wrap ((n : Int) + 1) = (n : Int) + 1 := IntWalk.i64_in _ (by omega)
  have hgt : (n : Int) + 1 > (cap : Int) := by omega
  have hnc' : (n : Int) ≤ (cap : Int) := by omega
  have hGc : ¬ G = 1 := by omega
  have hG0 : ¬ G = 0 := by omega
  have hc0 : ¬ cap = 0 := by omega
  have mixed : Try.prog.follows Departure.mixedOrders = true := by kernel_rfl
  have hwr1 : IntKind.i64.wrap 1 = 1 := by decide
  have h11 : (1 : Int) ≤ (n : Int) + 1 := by omega
  have h00 : (0 : Int) ≤ (n : Int) + 1 := by omega
  have htn : ((n : Int) + 1).toNat = n + 1 := by omega
  clear hb hb0 hb1 hb2 o0 o1 o2 hW0 hW1 hW2 hone hfl ht hs hv h hn hg' hrz0 hbg0 hbg1 hv0 hlz hZs hgb hvb hle hgr
  go_enter Try.func71, Try.ntmps71
  go_wp2_with (first
    | (at_builtin; refine Lib.wpList_append_run _ rfl _ _ _ _ rfl _ _ rfl rfl _ _ (hrz _) ?_)
    | (refine wpList_copy_is _ rfl _ _ 115 114 rfl _ _ rfl rfl (hcp1 _ _) ?_))
  go_region_law_o (refine step_copy_is rfl _ _ 115 115 rfl _ _ (by simp [Act.eval, Act.put]) (by simp [Act.eval, Act.put]) (hcp2 _ _ _) ?_)
  all_goals
    go_wp2_with fail
    go_ret
    exact ⟨G, rfl, HF.out⟩
end
end Go.Proofs.Ythfilpacmllhpab.idx
/- Selection by keys: a row with an entry more, at either end. -/
namespace Go.Proofs.Ythfilpacmllhpab.idx
section
set_option maxRecDepth 100000
open Go.RowKit Go.Proofs.Ythfilpacmllhpab.own Go.Lib
/-- What a row with an entry more answers. -/
def AnsRow (ao : Option Addr) (ys : List En) (w : World) (r : Ending) (w' : World) : Prop := ∃ ao' cap', r = .returned (.slice ao' ys.length cap') ∧ RowE ao' cap' ys w' ∧ Only (RowAt ao) w w' ∧ NewRow w.heap.size ao ao'
theorem insert_front (ao : Option Addr) (cap : Nat) (xs : List En) (e : En) (vb : Nat) (w : World) (h : RowE ao cap xs w) (hv : Five vb e w) (hl : xs.length ≤ 1000000) (hne : ∀ g, ao = some g → g.block ≠ vb) :
    Calls Try.prog 71 #[.slice ao xs.length cap, .int .i64 0, .slice (some ⟨vb, 0, none⟩) 1 1] w (AnsRow ao (e :: xs) w) := by
  rcases Nat.eq_zero_or_pos xs.length with h0 | h0
  · have hx : xs = [] := List.eq_nil_of_length_eq_zero h0
    subst hx
    refine (insert_end ao cap [] e vb w h hv hl).mono ?_
    rintro r w' ⟨ao', cap', rfl, h1, h2, h3⟩
    exact ⟨ao', cap', rfl, h1, h2, h3⟩
  · obtain ⟨g, cur, rfl, _⟩ := h.block h0
    by_cases hroom : xs.length + 1 ≤ cap
    · refine (insert_room g cap xs e vb w h hv hl h0 (fun e => hne _ rfl e.symm) hroom).mono ?_
      rintro r w' ⟨rfl, h1, h2⟩
      exact ⟨_, cap, rfl, h1, h2.mono (fun k _ e => ⟨_, rfl, e⟩), NewRow.refl _ _⟩
    · refine (insert_grow g cap xs e vb w h hv hl h0 (by omega)).mono ?_
      rintro r w' ⟨cap', rfl, h1, h2⟩
      exact ⟨_, cap', rfl, h1, h2.mono (fun k _ e => e.elim), fun g hg => by
        cases hg
        exact .inr (Nat.le_refl _)⟩
theorem insert_back (ao : Option Addr) (cap : Nat) (xs : List En) (e : En) (vb : Nat) (w : World) (h : RowE ao cap xs w) (hv : Five vb e w) (hl : xs.length ≤ 1000000) :
    Calls Try.prog 71 #[.slice ao xs.length cap, .int .i64 xs.length, .slice (some ⟨vb, 0, none⟩) 1 1] w (AnsRow ao (xs ++ [e]) w) := by
  refine (insert_end ao cap xs e vb w h hv hl).mono ?_
  rintro r w' ⟨ao', cap', rfl, h1, h2, h3⟩
  exact ⟨ao', cap', by simp, h1, h2, h3⟩
theorem AnsRow.from {ao : Option Addr} {ys : List En} {w w1 w' : World} {r : Ending} (h : AnsRow ao ys w1 r w') (o : Only (fun _ => False) w w1) : AnsRow ao ys w r w' := by
  obtain ⟨ao', cap', h1, h2, h3, h4⟩ := h
  exact ⟨ao', cap', h1, h2, (o.no _).same h3, fun g hg => by
    rcases h4 g hg with e | e
    · exact .inl e
    · exact .inr (Nat.le_trans o.size e)⟩
set_option maxHeartbeats 8000000 in
/-- The row with an entry more, whatever it is that Insert makes of it. -/
theorem with_pos (ao : Option Addr) (cap : Nat) (xs ys : List En) (e : En) (pos : Nat) (w : World) (h : RowE ao cap xs w) (hs : Rises xs) (hl : xs.length ≤ 1000000) (hpos : cntF e.pl xs = pos)
    (hin : ∀ (W : World) (vb : Nat), RowE ao cap xs W → Five vb e W → (∀ g, ao = some g → g.block ≠ vb) → Calls Try.prog 71 #[.slice ao xs.length cap, .int .i64 pos, .slice (some ⟨vb, 0, none⟩) 1 1] W (AnsRow ao ys W)) :
    Calls Try.prog 60 #[.slice ao xs.length cap, .agg #[.int .i64 e.id, .int .i64 e.key.k, .string e.key.s, .int .i64 e.key.n, .int .i64 e.pl]] w (AnsRow ao ys w) := by
  have HE0 : Hid (Five w.heap.size e (w.alloc (.cells #[.int .i64 e.id, .int .i64 e.key.k, .string e.key.s, .int .i64 e.key.n, .int .i64 e.pl] 122))) := Lib.hid (Five.new w e)
  have HO0 : Hid (Only (fun _ => False) w (w.alloc (.cells #[.int .i64 e.id, .int .i64 e.key.k, .string e.key.s, .int .i64 e.key.n, .int .i64 e.pl] 122))) := Lib.hid (Only.alloc _ _ _)
  have HFD : Hid (∀ W, Only (fun _ => False) w W → Calls Try.prog 72 #[.slice ao xs.length cap, .int .i64 e.pl] W fun r w' => r = .returned (.int .i64 (pos : Nat)) ∧ Only (fun _ => False) W w') := Lib.hid (fun W o => by
    rw [← hpos]
    exact find_any ao cap xs e.pl W (h.later o) hs hl)
  have HIN : Hid (∀ (W : World) (vb : Nat), Only (fun _ => False) w W → w.heap.size ≤ vb → Five vb e W → Calls Try.prog 71 #[.slice ao xs.length cap, .int .i64 (pos : Nat), .slice (some ⟨vb, 0, none⟩) 1 1] W (AnsRow ao ys W)) := Lib.hid (fun W vb o hb hv => hin W vb (h.later o) hv (fun g hg e => by have := (h.head g hg).2.2; omega))
  have HRB : Hid (∀ k, RowAt ao k → k < w.heap.size) := Lib.hid (fun k ⟨g, hg, e⟩ => by rw [e]; exact (h.head g hg).2.2)
  clear h hs hl hpos hin
  generalize xs.length = n at *
  have HK : Hid (∀ W, Only (fun _ => False) (w.alloc (.cells #[.int .i64 e.id, .int .i64 e.key.k, .string e.key.s, .int .i64 e.key.n, .int .i64 e.pl] 122)) W → W.cell? ⟨w.heap.size, 0, none⟩ = some (.int .i64 e.id) ∧ W.cell? ⟨w.heap.size, 1, none⟩ = some (.int .i64 e.key.k) ∧ W.cell? ⟨w.heap.size, 2, none⟩ = some (.string e.key.s) ∧ W.cell? ⟨w.heap.size, 3, none⟩ = some (.int .i64 e.key.n) ∧ W.cell? ⟨w.heap.size, 4, none⟩ = some (.int .i64 e.pl)) := Lib.hid (fun W o => (HE0.out.only o (fun e => e)).cells)
  have HK2 : Hid (∀ W, Only (RowAt ao) (w.alloc (.cells #[.int .i64 e.id, .int .i64 e.key.k, .string e.key.s, .int .i64 e.key.n, .int .i64 e.pl] 122)) W → W.cell? ⟨w.heap.size, 0, none⟩ = some (.int .i64 e.id) ∧ W.cell? ⟨w.heap.size, 1, none⟩ = some (.int .i64 e.key.k) ∧ W.cell? ⟨w.heap.size, 2, none⟩ = some (.string e.key.s) ∧ W.cell? ⟨w.heap.size, 3, none⟩ = some (.int .i64 e.key.n) ∧ W.cell? ⟨w.heap.size, 4, none⟩ = some (.int .i64 e.pl)) := Lib.hid (fun W o => (HE0.out.only o (fun x => by have := HRB.out _ x; omega)).cells)
  have HSZ : Hid ((w.alloc (.cells #[.int .i64 e.id, .int .i64 e.key.k, .string e.key.s, .int .i64 e.key.n, .int .i64 e.pl] 122)).heap.size = w.heap.size + 1) := Lib.hid (by simp)
  go_enter Try.func60, Try.ntmps60
  go_upto_region 1 with fail
  generalize w.alloc (.cells #[.int .i64 e.id, .int .i64 e.key.k, .string e.key.s, .int .i64 e.key.n, .int .i64 e.pl] 122) = E at *
  generalize hbx : w.heap.size = bx at *
  go_region_held3 (fun W => W.cell? ⟨bx, 0, none⟩ = some (.int .i64 e.id) ∧ W.cell? ⟨bx, 1, none⟩ = some (.int .i64 e.key.k) ∧ W.cell? ⟨bx, 2, none⟩ = some (.string e.key.s) ∧ W.cell? ⟨bx, 3, none⟩ = some (.int .i64 e.key.n) ∧ W.cell? ⟨bx, 4, none⟩ = some (.int .i64 e.pl)) (with_reducible first | exact HK2.out _ HOX.out | exact HK.out _ HOu.out | exact HK.out _ (HOu.out.same (Only.alloc _ _ _)) | exact HK.out _ (Only.drew _ _) | exact HK.out _ ((Only.alloc _ _ _).same (Only.drew _ _))) (first
    | (go_at_call 72; first
      | ((with_reducible refine (HFD.out E.drew (HO0.out.same (Only.drew _ _))).mono ?_); rintro r u ⟨rfl, hou⟩; have HOu : Hid (Only (fun _ => False) E u) := Lib.hid ((Only.drew _ _).same hou); clear hou)
      | ((with_reducible refine (HFD.out _ (HO0.out.same ((Only.alloc _ _ _).same (Only.drew _ _)))).mono ?_); rintro r u ⟨rfl, hou⟩; have HOu : Hid (Only (fun _ => False) E u) := Lib.hid (((Only.alloc _ _ _).same (Only.drew _ _)).same hou); have HVu : Hid (Five E.heap.size e u) := Lib.hid (Five.only (b := E.heap.size) (e := e) (heap_alloc_new E _) ((Only.drew _ _).same hou) (fun e => e)); clear hou))
    | (go_at_call 71; first
      | ((with_reducible refine (HIN.out _ _ (HO0.out.same HOu.out) (by rw [HSZ.out]; omega) HVu.out).mono ?_); intro r u2 hu2; have HA := Lib.hid (AnsRow.from hu2 (HO0.out.same HOu.out)); obtain ⟨ao2, cap2, rfl, _, ho2, _⟩ := hu2; have HOX : Hid (Only (RowAt ao) E u2) := Lib.hid ((HOu.out.no _).same ho2); clear ho2)
      | ((with_reducible refine (HIN.out _ _ (HO0.out.same (HOu.out.same (Only.alloc _ _ _))) (by have := HOu.out.size; have := HSZ.out; omega) (Five.new _ e)).mono ?_); intro r u2 hu2; have HA := Lib.hid (AnsRow.from hu2 (HO0.out.same (HOu.out.same (Only.alloc _ _ _)))); obtain ⟨ao2, cap2, rfl, _, ho2, _⟩ := hu2; have HOX : Hid (Only (RowAt ao) E u2) := Lib.hid (((HOu.out.same (Only.alloc _ _ _)).no _).same ho2); clear ho2)))
  all_goals
    go_wp2_with fail
    go_ret
    exact HA.out
end
end Go.Proofs.Ythfilpacmllhpab.idx
/- Selection by keys: the first entry from a place on; a row with an entry more. -/
namespace Go.Proofs.Ythfilpacmllhpab.idx
section
set_option maxRecDepth 100000
open Go.RowKit Go.Proofs.Ythfilpacmllhpab.own Go.Lib
def zE : En := ⟨0, ⟨0, ⟨#[]⟩, 0⟩, 0⟩
abbrev enV (e : En) : Value := .agg #[.int .i64 e.id, .int .i64 e.key.k, .string e.key.s, .int .i64 e.key.n, .int .i64 e.pl]
abbrev fiveW (w : World) (b : Nat) (e : En) : World := ((((w.setCell ⟨b, 0, none⟩ (.int .i64 e.id)).setCell ⟨b, 1, none⟩ (.int .i64 e.key.k)).setCell ⟨b, 2, none⟩ (.string e.key.s)).setCell ⟨b, 3, none⟩ (.int .i64 e.key.n)).setCell ⟨b, 4, none⟩ (.int .i64 e.pl)
theorem Five.set {b : Nat} {x : En} {w : World} (h : Five b x w) (e : En) : Five b e (fiveW w b e) ∧ Only (· = b) w (fiveW w b e) := by
  have so : ∀ (W : World) (j : Nat) (y : Value), Only (· = b) W (W.setCell ⟨b, j, none⟩ y) := fun W j y => Only.setCell (S := (· = b)) (p := ⟨b, j, none⟩) W rfl y
  refine ⟨?_, ((((so _ _ _).same (so _ _ _)).same (so _ _ _)).same (so _ _ _)).same (so _ _ _)⟩
  unfold Five at *
  rw [blk_set (blk_set (blk_set (blk_set (blk_set h 0 _) 1 _) 2 _) 3 _) 4 _]
  simp
theorem results_entry {fn : Func} {p u : Tmp} (h : fn.results = #[.cell p 122, .tmp u]) (tmps : Array Value) (w : World) (b : Nat) (e : En) (z : Value) (hb : tmps.getD p undef = .pointer (some ⟨b, 0, none⟩)) (hu : tmps.getD u undef = z) (hf : Five b e w) :
    (results fn tmps).run Try.prog w = .ok (.tuple #[enV e, z]) w := by
  have hb' : tmps[p]?.getD undef = .pointer (some ⟨b, 0, none⟩) := by simpa using hb
  have hu' : tmps[u]?.getD undef = z := by simpa using hu
  obtain ⟨h0, h1, h2, h3, h4⟩ := hf.cells
  simp only [results, h]
  go_simp
theorem cnt_all {p : Int} {xs : List En} (h : ∀ x ∈ xs, x.pl < p) : cntF p xs = xs.length := by
  unfold cntF
  rw [List.countP_eq_length]
  intro x hx
  simpa using h x hx
theorem cnt_none {p : Int} {xs : List En} (h : ∀ x ∈ xs, p ≤ x.pl) : cntF p xs = 0 := by
  unfold cntF
  rw [List.countP_eq_zero]
  intro x hx
  have := h x hx
  simp
  omega
/-- The first entry from a place on. -/
def fromF (p : Int) (xs : List En) : Option En := xs[cntF p xs]?
set_option maxHeartbeats 4000000 in
theorem from_any (ao : Option Addr) (cap : Nat) (xs : List En) (p : Int) (w : World) (h : RowE ao cap xs w) (hs : Rises xs) (hl : xs.length ≤ 1000000) :
    Calls Try.prog 83 #[.slice ao xs.length cap, .int .i64 p] w fun r w' => r = .returned (.tuple #[enV ((fromF p xs).getD zE), .bool (fromF p xs).isSome]) ∧ Only (fun _ => False) w w' := by
  have HZ0 : Hid (Five w.heap.size zE (w.alloc (.cells #[.int .i64 0, .int .i64 0, .string ⟨#[]⟩, .int .i64 0, .int .i64 0] 122))) := Lib.hid (Five.new w zE)
  have HO0 : Hid (Only (fun _ => False) w (w.alloc (.cells #[.int .i64 0, .int .i64 0, .string ⟨#[]⟩, .int .i64 0, .int .i64 0] 122))) := Lib.hid (Only.alloc _ _ _)
  have HFD : Hid (∀ W, Only (fun _ => False) w W → Calls Try.prog 72 #[.slice ao xs.length cap, .int .i64 p] W fun r w' => r = .returned (.int .i64 (cntF p xs : Nat)) ∧ Only (fun _ => False) W w') := Lib.hid (fun W o => find_any ao cap xs p W (h.later o) hs hl)
  have HC : Hid (∀ W, Only (fun _ => False) w W → ∀ t x, xs[t]? = some x → ∃ g, ao = some ⟨g, 0, none⟩ ∧ g < W.heap.size ∧ W.cell? ⟨g, t * 5, none⟩ = some (.int .i64 x.id) ∧ W.cell? ⟨g, t * 5 + 1, none⟩ = some (.int .i64 x.key.k) ∧ W.cell? ⟨g, t * 5 + 2, none⟩ = some (.string x.key.s) ∧ W.cell? ⟨g, t * 5 + 3, none⟩ = some (.int .i64 x.key.n) ∧ W.cell? ⟨g, t * 5 + 4, none⟩ = some (.int .i64 x.pl)) := Lib.hid (fun W o t x hx => RowE.cells (h.later o) hx)
  have hle := cnt_le p xs
  obtain ⟨F, hF⟩ : ∃ F, fromF p xs = F := ⟨_, rfl⟩
  rw [hF]
  have HF : Hid (xs[cntF p xs]? = F) := Lib.hid hF
  have HLT : Hid (cntF p xs < xs.length → xs[cntF p xs]?.isSome = true) := Lib.hid (fun h => by rw [List.getElem?_eq_getElem h]; rfl)
  have HNO : Hid (¬ cntF p xs < xs.length → xs[cntF p xs]? = none) := Lib.hid (fun h => List.getElem?_eq_none (by omega))
  clear h hs hF
  generalize cntF p xs = c at *
  generalize xs.length = n at *
  go_enter Try.func83, Try.ntmps83
  go_wp2_with fail
  generalize w.alloc (.cells #[.int .i64 0, .int .i64 0, .string ⟨#[]⟩, .int .i64 0, .int .i64 0] 122) = E at *
  refine (HFD.out _ HO0.out).mono ?_
  rintro r w1 ⟨rfl, ho1⟩
  have HO1 := Lib.hid (HO0.out.same ho1)
  have HZ1 := Lib.hid (HZ0.out.only ho1 (fun e => e))
  clear ho1
  obtain ⟨z0, z1, z2, z3, z4⟩ := HZ1.out.cells
  obtain ⟨f0, f1, f2, f3, f4⟩ := HZ1.out.free
  by_cases hc : c < n
  · obtain ⟨x, hx⟩ : ∃ x, xs[c]? = some x := Option.isSome_iff_exists.1 (HLT.out hc)
    obtain rfl : F = some x := HF.out.symm.trans hx
    obtain ⟨g, rfl, hgl, c0, c1, c2, c3, c4⟩ := HC.out _ HO1.out _ _ hx
    have hne : ((c : Int) == (n : Int)) = false := by simp; omega
    have hi0 : (0 : Int) ≤ (c : Int) := by omega
    have hi1 : (c : Int) < (n : Int) := by omega
    have HS := Lib.hid (HZ1.out.set x)
    clear hx hle
    go_wp2_with fail
    refine bodyPost_ret (v := .tuple #[enV x, .bool true]) (results_entry rfl _ _ w.heap.size x _ rfl rfl HS.out.1) rfl ?_
    exact ⟨rfl, Only.cut HO1.out HS.out.2 (fun k e => by omega)⟩
  · have hcn : c = n := by omega
    subst hcn
    obtain rfl : F = none := HF.out.symm.trans (HNO.out hc)
    have heq : ((c : Int) == (c : Int)) = true := by simp
    have HS := Lib.hid (HZ1.out.set zE)
    clear hc hle
    go_wp2_with fail
    refine bodyPost_ret (v := .tuple #[enV zE, .bool false]) (results_entry rfl _ _ w.heap.size zE _ rfl rfl HS.out.1) rfl ?_
    exact ⟨rfl, Only.cut HO1.out HS.out.2 (fun k e => by omega)⟩
/-- A row with an entry more, behind all others. -/
theorem with_back (ao : Option Addr) (cap : Nat) (xs : List En) (e : En) (w : World) (h : RowE ao cap xs w) (hs : Rises xs) (hl : xs.length ≤ 1000000) (hp : ∀ x ∈ xs, x.pl < e.pl) :
    Calls Try.prog 60 #[.slice ao xs.length cap, enV e] w (AnsRow ao (xs ++ [e]) w) :=
  with_pos ao cap xs (xs ++ [e]) e xs.length w h hs hl (cnt_all hp) (fun W vb h' hv _ => insert_back ao cap xs e vb W h' hv hl)
/-- And ahead of them. -/
theorem with_front (ao : Option Addr) (cap : Nat) (xs : List En) (e : En) (w : World) (h : RowE ao cap xs w) (hs : Rises xs) (hl : xs.length ≤ 1000000) (hp : ∀ x ∈ xs, e.pl < x.pl) :
    Calls Try.prog 60 #[.slice ao xs.length cap, enV e] w (AnsRow ao (e :: xs) w) :=
  with_pos ao cap xs (e :: xs) e 0 w h hs hl (cnt_none (fun x hx => Int.le_of_lt (hp x hx))) (fun W vb h' hv hne => insert_front ao cap xs e vb W h' hv hl hne)
end
end Go.Proofs.Ythfilpacmllhpab.idx
/- Selection by keys: keys, and numbers, as a map's keys. -/
namespace Go.Proofs.Ythfilpacmllhpab.idx
section
set_option maxRecDepth 100000
open Go.RowKit Go.Proofs.Ythfilpacmllhpab.own Go.Lib Go.Maps Go.WideMaps
open Go.ChangeMaps (putKey delKey notKey)
theorem laidOut : laidOutB Try.prog = true := by kernel_rfl
theorem rowK : (37 : TypeId) < Try.prog.types.size := of_decide_eq_true (by kernel_rfl)
theorem wideK : (match Try.prog.underlying 37 with | some (.array _ _) | some (.struct _) => true | _ => false) = true := by rw [Try.underlying37]
theorem lawK : KeyLaw Try.prog 37 := deep_law_laid laidOut (m := 2) (by omega) rowK (by kernel_rfl) wideK
theorem keyedK : Keyed Try.prog 37 := Keyed.of_law lawK
theorem keyedI : Keyed Try.prog 3 := int_keyed Try.underlying3
theorem cellsK : Try.prog.cellsOf 37 = 3 := by kernel_rfl
theorem cellsI : Try.prog.cellsOf 3 = 1 := by kernel_rfl
theorem cellsS : Try.prog.cellsOf 9 = 1 := by kernel_rfl
abbrev kyV (k : Ky) : Value := .agg #[.int .i64 k.k, .string k.s, .int .i64 k.n]
def Fit (a : Int) : Prop := (Lit.int .i64 a).wf = true
structure Ky.Ok (x : Ky) : Prop where
  k : Fit x.k
  n : Fit x.n
  s : x.s.size ≤ maxLen
theorem formedK {c0 c1 c2 : Value} : (Value.agg #[c0, c1, c2]).formed Try.prog 37 = true := by simp [Value.formed, Try.underlying37, cellsK]
theorem litsK {k : Ky} (h : k.Ok) : Try.prog.keyLits (Try.prog.types.size + 1) 37 (kyV k).cells.toList = some [.int .i64 k.k, .string k.s.data.toList, .int .i64 k.n] := by
  obtain ⟨m, hm⟩ : ∃ m, Try.prog.types.size = m + 1 := Nat.exists_eq_succ_of_ne_zero (Nat.ne_of_gt (Nat.lt_of_le_of_lt (Nat.zero_le _) rowK))
  have w1 : (Lit.int .i64 k.k).wf = true := h.k
  have w2 : (Lit.int .i64 k.n).wf = true := h.n
  have w3 : k.s.size ≤ maxLen := h.s
  rw [hm]
  simp [kyV, Value.cells, Program.keyLits, Try.underlying37, Try.underlying3, Try.underlying9, cellsK, cellsI, cellsS, w1, w2, w3]
def keyK (k : Ky) : Lit := .string (keyBytes [.int .i64 k.k, .string k.s.data.toList, .int .i64 k.n])
theorem keyOfK {k : Ky} (h : k.Ok) : keyOf Try.prog 37 (kyV k) = some (keyK k) := by
  unfold keyOf
  rw [Try.underlying37]
  have h1 : Try.prog.keyType 37 = true := by kernel_rfl
  have h2 : (kyV k).formed Try.prog 37 = true := formedK
  simp only [h1, h2, Bool.and_self, if_true, litsK h, Option.map_some]
  rfl
theorem Ky.eq {x y : Ky} (h1 : x.k = y.k) (h2 : x.s = y.s) (h3 : x.n = y.n) : x = y := by
  cases x; cases y; simp_all
theorem keyK_inj {a b : Ky} (ha : a.Ok) (hb : b.Ok) (h : keyK a = keyK b) : a = b := by
  have h1 := keyOfK ha
  have h2 := keyOfK hb
  rw [← h] at h2
  have e := keyedK.inj h1 h2
  simp only [kyV, Value.agg.injEq, Array.mk.injEq, List.cons.injEq, Value.int.injEq, Value.string.injEq, and_true, true_and] at e
  exact Ky.eq e.1 e.2.1 e.2.2
theorem keyK_key (k : Ky) : WideAt.IsKeyLit (keyK k) := by trivial
def keyN (i : Int) : Lit := .int .i64 i
theorem keyOfN {i : Int} (h : Fit i) : keyOf Try.prog 3 (.int .i64 i) = some (keyN i) := keyOf_int_mk Try.underlying3 h
theorem keyN_key (i : Int) : WideAt.IsKeyLit (keyN i) := by trivial
theorem keyN_inj {a b : Int} (h : keyN a = keyN b) : a = b := by
  unfold keyN at h
  injection h
/-! ### The map of the numbers -/
abbrev D1 := DataW Unit
def enD (e : En) : D1 := .agg [.lit (.int .i64 e.id), .lit (.int .i64 e.key.k), .lit (.string e.key.s.data.toList), .lit (.int .i64 e.key.n), .lit (.int .i64 e.pl)]
/-- How an entry reads. -/
def enR : Value → Option (D1 × List MemPlace)
  | .agg a => match a.toList with
    | [.int .i64 i, .int .i64 k, .string s, .int .i64 n, .int .i64 p] => some (enD ⟨i, ⟨k, s, n⟩, p⟩, [])
    | _ => none
  | _ => none
theorem enR_mk (e : En) : enR (enV e) = some (enD e, []) := rfl
theorem ba_lists {a b : ByteArray} (h : a.data.toList = b.data.toList) : a = b := by
  cases a; cases b
  congr 1
  exact Array.toList_inj.1 h
theorem enR_inv {v : Value} {e : En} {ps : List MemPlace} (h : enR v = some (enD e, ps)) : v = enV e := by
  unfold enR at h
  split at h
  · rename_i a
    split at h
    · rename_i i k s n p ha
      simp only [Option.some.injEq, Prod.mk.injEq, enD, DataW.agg.injEq, List.cons.injEq, DataW.lit.injEq, Lit.int.injEq, Lit.string.injEq, true_and, and_true] at h
      obtain ⟨⟨h1, h2, h3, h4, h5⟩, _⟩ := h
      have := ba_lists h3
      subst h1 h2 this h4 h5
      have : a = #[.int .i64 e.id, .int .i64 e.key.k, .string e.key.s, .int .i64 e.key.n, .int .i64 e.pl] := Array.toList_inj.1 ha
      rw [this]
    · cases h
  · cases h
/-- The numbers, with their entries. -/
def idP (L : List En) : List (Lit × D1) := L.map (fun e => (keyN e.id, enD e))
def IdMap (D : D1) (L : List En) : Prop := ∃ es, D = .map es ∧ es.Perm (idP L)
/-- Unlike entries have unlike numbers. -/
def Alone (L : List En) : Prop := L.Pairwise (fun a b => a.id ≠ b.id)
theorem mem_idP {L : List En} {p : Lit × D1} : p ∈ idP L ↔ ∃ e ∈ L, p = (keyN e.id, enD e) := by
  unfold idP
  rw [List.mem_map]
  exact ⟨fun ⟨e, h, h'⟩ => ⟨e, h, h'.symm⟩, fun ⟨e, h, h'⟩ => ⟨e, h, h'.symm⟩⟩
theorem idP_apart {L : List En} (h : Alone L) : (idP L).Pairwise (fun p q => p.1 ≠ q.1) := by
  unfold idP
  rw [List.pairwise_map]
  exact h.imp (fun h e => h (keyN_inj e))
theorem IdMap.empty : IdMap (.map []) [] := ⟨[], rfl, List.Perm.refl _⟩
theorem IdMap.size {D : D1} {L : List En} (h : IdMap D L) : Maps.size D = L.length := by
  obtain ⟨es, rfl, hp⟩ := h
  have := hp.length_eq
  unfold idP at this
  rw [List.length_map] at this
  exact this
theorem IdMap.has_yes {D : D1} {L : List En} (h : IdMap D L) {e : En} (he : e ∈ L) : Maps.has D (keyN e.id) = true := by
  obtain ⟨es, rfl, hp⟩ := h
  rw [Maps.has_eq, List.any_eq_true]
  exact ⟨(keyN e.id, enD e), hp.mem_iff.2 (mem_idP.2 ⟨e, he, rfl⟩), WideAt.sameKey_self (keyN_key _)⟩
theorem IdMap.has_no {D : D1} {L : List En} (h : IdMap D L) {i : Int} (hn : ∀ e ∈ L, e.id ≠ i) : Maps.has D (keyN i) = false := by
  obtain ⟨es, rfl, hp⟩ := h
  rw [Maps.has_eq, List.any_eq_false]
  intro p hp' e
  obtain ⟨x, hx, rfl⟩ := mem_idP.1 (hp.mem_iff.1 hp')
  exact hn x hx (keyN_inj (WideAt.sameKey_eq e))
theorem IdMap.at_yes {D : D1} {L : List En} (h : IdMap D L) (hA : Alone L) {e : En} (he : e ∈ L) (z : D1) : D.atKey (keyN e.id) z = enD e := by
  obtain ⟨es, rfl, hp⟩ := h
  exact WideAt.atKey_mem z (keyN_key _) ((hp.pairwise_iff (fun {a b} (h : a.1 ≠ b.1) => h.symm)).2 (idP_apart hA)) (hp.mem_iff.2 (mem_idP.2 ⟨e, he, rfl⟩))
theorem IdMap.at_no {D : D1} {L : List En} (h : IdMap D L) {i : Int} (hn : ∀ e ∈ L, e.id ≠ i) (z : D1) : D.atKey (keyN i) z = z := by
  obtain ⟨es, rfl, hp⟩ := h
  refine WideAt.atKey_none z ?_
  intro p hp' e
  obtain ⟨x, hx, rfl⟩ := mem_idP.1 (hp.mem_iff.1 hp')
  exact hn x hx (keyN_inj e)
theorem IdMap.put {D : D1} {L L' : List En} (h : IdMap D L) {e : En} (hn : ∀ x ∈ L, x.id ≠ e.id) (hp' : L'.Perm (e :: L)) : IdMap (D.put (keyN e.id) (enD e)) L' := by
  obtain ⟨es, rfl, hp⟩ := h
  refine ⟨_, DataW.put_eq _ _ _, ?_⟩
  have hf : es.filter (notKey (keyN e.id)) = es := by
    rw [List.filter_eq_self]
    intro p hp2
    rw [notKey_iff (keyN_key _)]
    intro e'
    obtain ⟨x, hx, rfl⟩ := mem_idP.1 (hp.mem_iff.1 hp2)
    exact hn x hx (keyN_inj e')
  unfold putKey
  rw [hf]
  have hm : (idP L').Perm ((keyN e.id, enD e) :: idP L) := hp'.map _
  exact (WideShapes.insert_perm _ _).trans ((hp.cons _).trans hm.symm)
theorem IdMap.del {D : D1} {L : List En} (h : IdMap D L) (i : Int) : IdMap (D.del (keyN i)) (L.filter (fun e => decide (e.id ≠ i))) := by
  obtain ⟨es, rfl, hp⟩ := h
  refine ⟨_, DataW.del_eq _ _, ?_⟩
  unfold delKey
  have : idP (L.filter (fun e => decide (e.id ≠ i))) = (idP L).filter (notKey (keyN i)) := by
    unfold idP
    rw [List.filter_map]
    congr 1
    apply List.filter_congr
    intro e _
    simp only [Function.comp]
    cases hk : notKey (keyN i) (keyN e.id, enD e) with
    | true => exact decide_eq_true (fun h' => (notKey_iff (keyN_key _)).1 hk (by rw [h']))
    | false =>
      refine decide_eq_false (fun h' => ?_)
      rw [(notKey_iff (keyN_key i) (p := (keyN e.id, enD e))).2 (fun h2 => h' (keyN_inj h2))] at hk
      cases hk
  rw [this]
  exact hp.filter _
end
end Go.Proofs.Ythfilpacmllhpab.idx
/- Selection by keys: rows by their keys, plain. -/
namespace Go.Proofs.Ythfilpacmllhpab.idx
section
set_option maxRecDepth 100000
open Go.RowKit Go.Proofs.Ythfilpacmllhpab.own Go.Lib Go.Maps Go.WideMaps
open Go.ChangeMaps (putKey delKey notKey)
def eqK (a b : Ky) : Bool := a.k == b.k && a.s.data.toList == b.s.data.toList && a.n == b.n
theorem eqK_iff {a b : Ky} : eqK a b = true ↔ a = b := by
  unfold eqK
  simp only [Bool.and_eq_true, beq_iff_eq]
  exact ⟨fun h => Ky.eq h.1.1 (ba_lists h.1.2) h.2, fun h => by subst h; exact ⟨⟨rfl, rfl⟩, rfl⟩⟩
theorem eqK_refl (a : Ky) : eqK a a = true := eqK_iff.2 rfl
theorem eqK_ne {a b : Ky} (h : a ≠ b) : eqK a b = false := by
  cases e : eqK a b with
  | false => rfl
  | true => exact absurd (eqK_iff.1 e) h
theorem eqK_comm (a b : Ky) : eqK a b = eqK b a := by
  cases h : eqK a b with
  | true => rw [eqK_iff.1 h, eqK_refl]
  | false =>
    refine (eqK_ne (fun e => ?_)).symm
    rw [e, eqK_refl] at h
    cases h
/-- The entries of a key. -/
def cls (k : Ky) (L : List En) : List En := L.filter (fun e => eqK e.key k)
theorem mem_cls {k : Ky} {L : List En} {e : En} : e ∈ cls k L ↔ e ∈ L ∧ e.key = k := by
  unfold cls
  rw [List.mem_filter, eqK_iff]
theorem cls_rises {k : Ky} {L : List En} (h : Rises L) : Rises (cls k L) := h.sublist List.filter_sublist
theorem cls_len (k : Ky) (L : List En) : (cls k L).length ≤ L.length := List.length_filter_le _ _
/-- Where a row is. -/
abbrev Hd := Option Addr × Nat × Nat
abbrev D2 := DataW Hd
def hdR : Value → Option (D2 × List MemPlace)
  | .slice a n c => some (.held (a, n, c), [])
  | _ => none
theorem hdR_mk (a : Option Addr) (n c : Nat) : hdR (.slice a n c) = some (.held (a, n, c), []) := rfl
theorem hdR_inv {v : Value} {h : Hd} {ps : List MemPlace} (e : hdR v = some (.held h, ps)) : v = .slice h.1 h.2.1 h.2.2 := by
  unfold hdR at e
  split at e
  · simp only [Option.some.injEq, Prod.mk.injEq, DataW.held.injEq] at e
    rw [← e.1]
  · cases e
abbrev Ks := List (Ky × Hd)
def rkP (ks : Ks) : List (Lit × D2) := ks.map (fun p => (keyK p.1, .held p.2))
def RkMap (D : D2) (ks : Ks) : Prop := ∃ es, D = .map es ∧ es.Perm (rkP ks)
/-- Unlike rows have unlike keys, which may be. -/
structure KsOk (ks : Ks) : Prop where
  ok : ∀ p ∈ ks, p.1.Ok
  one : ks.Pairwise (fun p q => p.1 ≠ q.1)
theorem mem_rkP {ks : Ks} {p : Lit × D2} : p ∈ rkP ks ↔ ∃ q ∈ ks, p = (keyK q.1, .held q.2) := by
  unfold rkP
  rw [List.mem_map]
  exact ⟨fun ⟨e, h, h'⟩ => ⟨e, h, h'.symm⟩, fun ⟨e, h, h'⟩ => ⟨e, h, h'.symm⟩⟩
theorem rkP_apart {ks : Ks} (h : KsOk ks) : (rkP ks).Pairwise (fun p q => p.1 ≠ q.1) := by
  unfold rkP
  rw [List.pairwise_map]
  exact List.Pairwise.imp_of_mem (fun {a b} ha hb hab e => hab (keyK_inj (h.ok a ha) (h.ok b hb) e)) h.one
theorem RkMap.empty : RkMap (.map []) [] := ⟨[], rfl, List.Perm.refl _⟩
theorem RkMap.at_yes {D : D2} {ks : Ks} (h : RkMap D ks) (hA : KsOk ks) {p : Ky × Hd} (hp : p ∈ ks) (z : D2) : D.atKey (keyK p.1) z = .held p.2 := by
  obtain ⟨es, rfl, he⟩ := h
  exact WideAt.atKey_mem z (keyK_key _) ((he.pairwise_iff (fun {a b} (h : a.1 ≠ b.1) => h.symm)).2 (rkP_apart hA)) (he.mem_iff.2 (mem_rkP.2 ⟨p, hp, rfl⟩))
theorem RkMap.at_no {D : D2} {ks : Ks} (h : RkMap D ks) (hA : KsOk ks) {k : Ky} (hk : k.Ok) (hn : ∀ p ∈ ks, p.1 ≠ k) (z : D2) : D.atKey (keyK k) z = z := by
  obtain ⟨es, rfl, he⟩ := h
  refine WideAt.atKey_none z ?_
  intro p hp' e
  obtain ⟨x, hx, rfl⟩ := mem_rkP.1 (he.mem_iff.1 hp')
  exact hn x hx (keyK_inj (hA.ok x hx) hk e)
/-- A row's place is set: a new one, or another one in its stead. -/
def setK (ks : Ks) (k : Ky) (h : Hd) : Ks := (k, h) :: ks.filter (fun p => !eqK p.1 k)
def delK (ks : Ks) (k : Ky) : Ks := ks.filter (fun p => !eqK p.1 k)
theorem mem_delK {ks : Ks} {k : Ky} {p : Ky × Hd} : p ∈ delK ks k ↔ p ∈ ks ∧ p.1 ≠ k := by
  unfold delK
  rw [List.mem_filter]
  refine ⟨fun h => ⟨h.1, fun e => ?_⟩, fun h => ⟨h.1, by rw [eqK_ne h.2]; rfl⟩⟩
  have := h.2
  rw [e, eqK_refl] at this
  cases this
theorem rkP_del {ks : Ks} {k : Ky} (hA : KsOk ks) (hk : k.Ok) : rkP (delK ks k) = (rkP ks).filter (notKey (keyK k)) := by
  unfold rkP delK
  rw [List.filter_map]
  congr 1
  apply List.filter_congr
  intro p hp
  simp only [Function.comp]
  by_cases h : p.1 = k
  · rw [h, eqK_refl]
    cases hn : notKey (keyK k) (keyK k, (DataW.held p.2 : D2)) with
    | false => rfl
    | true => exact absurd rfl ((notKey_iff (keyK_key k) (p := (keyK k, (DataW.held p.2 : D2)))).1 hn)
  · rw [eqK_ne h]
    exact ((notKey_iff (keyK_key k) (p := (keyK p.1, (DataW.held p.2 : D2)))).2 (fun e => h (keyK_inj (hA.ok p hp) hk e))).symm
theorem RkMap.put {D : D2} {ks : Ks} (h : RkMap D ks) (hA : KsOk ks) {k : Ky} (hk : k.Ok) (hd : Hd) : RkMap (D.put (keyK k) (.held hd)) (setK ks k hd) := by
  obtain ⟨es, rfl, he⟩ := h
  refine ⟨_, DataW.put_eq _ _ _, ?_⟩
  unfold putKey
  refine (WideShapes.insert_perm _ _).trans ?_
  show ((keyK k, DataW.held hd) :: es.filter (notKey (keyK k))).Perm ((keyK k, DataW.held hd) :: rkP (delK ks k))
  rw [rkP_del hA hk]
  exact (he.filter _).cons _
theorem RkMap.del {D : D2} {ks : Ks} (h : RkMap D ks) (hA : KsOk ks) {k : Ky} (hk : k.Ok) : RkMap (D.del (keyK k)) (delK ks k) := by
  obtain ⟨es, rfl, he⟩ := h
  refine ⟨_, DataW.del_eq _ _, ?_⟩
  unfold delKey
  rw [rkP_del hA hk]
  exact he.filter _
theorem KsOk.del {ks : Ks} (h : KsOk ks) (k : Ky) : KsOk (delK ks k) := ⟨fun p hp => h.ok p (mem_delK.1 hp).1, h.one.sublist List.filter_sublist⟩
theorem KsOk.set {ks : Ks} (h : KsOk ks) {k : Ky} (hk : k.Ok) (hd : Hd) : KsOk (setK ks k hd) := by
  refine ⟨fun p hp => ?_, List.pairwise_cons.2 ⟨fun p hp e => (mem_delK.1 hp).2 e.symm, (h.del k).one⟩⟩
  rcases List.mem_cons.1 hp with rfl | hp
  · exact hk
  · exact (h.del k).ok p hp
/-- The place of a key's row. -/
theorem ks_or (ks : Ks) (k : Ky) : (∃ h, (k, h) ∈ ks) ∨ (∀ p ∈ ks, p.1 ≠ k) := by
  by_cases h : ∃ h, (k, h) ∈ ks
  · exact .inl h
  · exact .inr (fun p hp e => h ⟨p.2, by rw [← e]; exact hp⟩)
/-! ### What is met first -/
theorem from_find {p : Int} : ∀ {L : List En}, Rises L → fromF p L = L.find? (fun e => decide (p ≤ e.pl)) := by
  intro L
  induction L with
  | nil => intro _; rfl
  | cons x r ih =>
    intro h
    have h' := List.pairwise_cons.1 h
    by_cases hx : x.pl < p
    · have ihr := ih h'.2
      unfold fromF cntF at *
      rw [List.countP_cons_of_pos (by simpa using hx), List.getElem?_cons_succ, ihr, List.find?_cons_of_neg (by simp; omega)]
    · have h0 : cntF p (x :: r) = 0 := cnt_none (fun y hy => by
        rcases List.mem_cons.1 hy with rfl | hy
        · omega
        · have := h'.1 y hy; omega)
      unfold fromF
      rw [h0, List.find?_cons_of_pos (by simp; omega)]
      rfl
/-- Of two entries, the one at the lower place. -/
def pickF : Option En → Option En → Option En
  | none, y => y
  | some x, none => some x
  | some x, some y => if y.pl < x.pl then some y else some x
/-- Two questions: the first entry that meets either of them. -/
theorem find_two (f g : En → Bool) : ∀ {L : List En}, Rises L → L.find? (fun e => f e || g e) = pickF (L.find? f) (L.find? g) := by
  intro L
  induction L with
  | nil => intro _; rfl
  | cons a r ih =>
    intro h
    have h' := List.pairwise_cons.1 h
    have ihr := ih h'.2
    cases hf : f a with
    | true =>
      rw [List.find?_cons_of_pos (by simp [hf]), List.find?_cons_of_pos (p := f) (by simp [hf])]
      cases hg : g a with
      | true =>
        rw [List.find?_cons_of_pos (p := g) (by simp [hg])]
        simp [pickF]
      | false =>
        rw [List.find?_cons_of_neg (p := g) (by simp [hg])]
        cases hr : r.find? g with
        | none => rfl
        | some y =>
          have := h'.1 y (List.mem_of_find?_eq_some hr)
          simp only [pickF]
          rw [if_neg (by omega)]
    | false =>
      cases hg : g a with
      | true =>
        rw [List.find?_cons_of_pos (by simp [hg]), List.find?_cons_of_pos (p := g) (by simp [hg]), List.find?_cons_of_neg (p := f) (by simp [hf])]
        cases hr : r.find? f with
        | none => rfl
        | some x =>
          have := h'.1 x (List.mem_of_find?_eq_some hr)
          simp only [pickF]
          rw [if_pos (by omega)]
      | false =>
        rw [List.find?_cons_of_neg (by simp [hf, hg]), List.find?_cons_of_neg (p := f) (by simp [hf]), List.find?_cons_of_neg (p := g) (by simp [hg])]
        exact ihr
end
end Go.Proofs.Ythfilpacmllhpab.idx
