/- Selection by keys: keys, and numbers, as a map's keys. -/
import Derived.Test.YthgjedcelcanbaaIdx7
import Derived.Maps.OwnSet
import Derived.Maps.Views
import Derived.Maps.Keyed
import Derived.StringKeys
import Derived.MapViews
import Derived.DeepKeys4
namespace Go.Proofs.Ythgjedcelcanbaa.idx
set_option maxRecDepth 100000
open Go.RowKit Go.Proofs.Ythgjedcelcanbaa.own Go.Lib Go.Maps Go.WideMaps
open Go.ChangeMaps (putKey delKey notKey)
theorem laidOut : laidOutB Try.prog = true := by kernel_rfl
theorem rowK : (32 : TypeId) < Try.prog.types.size := of_decide_eq_true (by kernel_rfl)
theorem wideK : (match Try.prog.underlying 32 with | some (.array _ _) | some (.struct _) => true | _ => false) = true := by rw [Try.underlying32]
theorem lawK : KeyLaw Try.prog 32 := deep_law_laid laidOut (m := 2) (by omega) rowK (by kernel_rfl) wideK
theorem keyedK : Keyed Try.prog 32 := Keyed.of_law lawK
theorem keyedI : Keyed Try.prog 3 := int_keyed Try.underlying3
theorem cellsK : Try.prog.cellsOf 32 = 3 := by kernel_rfl
theorem cellsI : Try.prog.cellsOf 3 = 1 := by kernel_rfl
theorem cellsS : Try.prog.cellsOf 9 = 1 := by kernel_rfl
abbrev kyV (k : Ky) : Value := .agg #[.int .i64 k.k, .string k.s, .int .i64 k.n]
def Fit (a : Int) : Prop := (Lit.int .i64 a).wf = true
structure Ky.Ok (x : Ky) : Prop where
  k : Fit x.k
  n : Fit x.n
  s : x.s.size ≤ maxLen
theorem formedK {c0 c1 c2 : Value} : (Value.agg #[c0, c1, c2]).formed Try.prog 32 = true := by simp [Value.formed, Try.underlying32, cellsK]
theorem litsK {k : Ky} (h : k.Ok) : Try.prog.keyLits (Try.prog.types.size + 1) 32 (kyV k).cells.toList = some [.int .i64 k.k, .string k.s.data.toList, .int .i64 k.n] := by
  obtain ⟨m, hm⟩ : ∃ m, Try.prog.types.size = m + 1 := Nat.exists_eq_succ_of_ne_zero (Nat.ne_of_gt (Nat.lt_of_le_of_lt (Nat.zero_le _) rowK))
  have w1 : (Lit.int .i64 k.k).wf = true := h.k
  have w2 : (Lit.int .i64 k.n).wf = true := h.n
  have w3 : k.s.size ≤ maxLen := h.s
  rw [hm]
  simp [kyV, Value.cells, Program.keyLits, Try.underlying32, Try.underlying3, Try.underlying9, cellsK, cellsI, cellsS, w1, w2, w3]
def keyK (k : Ky) : Lit := .string (keyBytes [.int .i64 k.k, .string k.s.data.toList, .int .i64 k.n])
theorem keyOfK {k : Ky} (h : k.Ok) : keyOf Try.prog 32 (kyV k) = some (keyK k) := by
  unfold keyOf
  rw [Try.underlying32]
  have h1 : Try.prog.keyType 32 = true := by kernel_rfl
  have h2 : (kyV k).formed Try.prog 32 = true := formedK
  simp only [h1, h2, Bool.and_self, if_true, litsK h, Option.map_some]
  rfl
theorem Ky.eq {x y : Ky} (h1 : x.k = y.k) (h2 : x.s = y.s) (h3 : x.n = y.n) : x = y := by
  cases x; cases y; simp_all
theorem keyK_inj {a b : Ky} (ha : a.Ok) (hb : b.Ok) (h : keyK a = keyK b) : a = b := by
  have h1 := keyOfK ha
  have h2 := keyOfK hb
  rw [← h] at h2
  have e := keyedK.inj h1 h2
  simp only [kyV, Value.agg.injEq, Array.mk.injEq, List.cons.injEq, Value.int.injEq, Value.string.injEq, and_true, true_and] at e
  exact Ky.eq e.1 e.2.1 e.2.2
theorem keyK_key (k : Ky) : WideAt.IsKeyLit (keyK k) := by trivial
def keyN (i : Int) : Lit := .int .i64 i
theorem keyOfN {i : Int} (h : Fit i) : keyOf Try.prog 3 (.int .i64 i) = some (keyN i) := keyOf_int_mk Try.underlying3 h
theorem keyN_key (i : Int) : WideAt.IsKeyLit (keyN i) := by trivial
theorem keyN_inj {a b : Int} (h : keyN a = keyN b) : a = b := by
  unfold keyN at h
  injection h
/-! ### The map of the numbers -/
abbrev D1 := DataW Unit
def enD (e : En) : D1 := .agg [.lit (.int .i64 e.id), .lit (.int .i64 e.key.k), .lit (.string e.key.s.data.toList), .lit (.int .i64 e.key.n), .lit (.int .i64 e.pl)]
/-- How an entry reads. -/
def enR : Value → Option (D1 × List MemPlace)
  | .agg a => match a.toList with
    | [.int .i64 i, .int .i64 k, .string s, .int .i64 n, .int .i64 p] => some (enD ⟨i, ⟨k, s, n⟩, p⟩, [])
    | _ => none
  | _ => none
theorem enR_mk (e : En) : enR (enV e) = some (enD e, []) := rfl
theorem ba_lists {a b : ByteArray} (h : a.data.toList = b.data.toList) : a = b := by
  cases a; cases b
  congr 1
  exact Array.toList_inj.1 h
theorem enR_inv {v : Value} {e : En} {ps : List MemPlace} (h : enR v = some (enD e, ps)) : v = enV e := by
  unfold enR at h
  split at h
  · rename_i a
    split at h
    · rename_i i k s n p ha
      simp only [Option.some.injEq, Prod.mk.injEq, enD, DataW.agg.injEq, List.cons.injEq, DataW.lit.injEq, Lit.int.injEq, Lit.string.injEq, true_and, and_true] at h
      obtain ⟨⟨h1, h2, h3, h4, h5⟩, _⟩ := h
      have := ba_lists h3
      subst h1 h2 this h4 h5
      have : a = #[.int .i64 e.id, .int .i64 e.key.k, .string e.key.s, .int .i64 e.key.n, .int .i64 e.pl] := Array.toList_inj.1 ha
      rw [this]
    · cases h
  · cases h
/-- The numbers, with their entries. -/
def idP (L : List En) : List (Lit × D1) := L.map (fun e => (keyN e.id, enD e))
def IdMap (D : D1) (L : List En) : Prop := ∃ es, D = .map es ∧ es.Perm (idP L)
/-- Unlike entries have unlike numbers. -/
def Alone (L : List En) : Prop := L.Pairwise (fun a b => a.id ≠ b.id)
theorem mem_idP {L : List En} {p : Lit × D1} : p ∈ idP L ↔ ∃ e ∈ L, p = (keyN e.id, enD e) := by
  unfold idP
  rw [List.mem_map]
  exact ⟨fun ⟨e, h, h'⟩ => ⟨e, h, h'.symm⟩, fun ⟨e, h, h'⟩ => ⟨e, h, h'.symm⟩⟩
theorem idP_apart {L : List En} (h : Alone L) : (idP L).Pairwise (fun p q => p.1 ≠ q.1) := by
  unfold idP
  rw [List.pairwise_map]
  exact h.imp (fun h e => h (keyN_inj e))
theorem IdMap.empty : IdMap (.map []) [] := ⟨[], rfl, List.Perm.refl _⟩
theorem IdMap.size {D : D1} {L : List En} (h : IdMap D L) : Maps.size D = L.length := by
  obtain ⟨es, rfl, hp⟩ := h
  have := hp.length_eq
  unfold idP at this
  rw [List.length_map] at this
  exact this
theorem IdMap.has_yes {D : D1} {L : List En} (h : IdMap D L) {e : En} (he : e ∈ L) : Maps.has D (keyN e.id) = true := by
  obtain ⟨es, rfl, hp⟩ := h
  rw [Maps.has_eq, List.any_eq_true]
  exact ⟨(keyN e.id, enD e), hp.mem_iff.2 (mem_idP.2 ⟨e, he, rfl⟩), WideAt.sameKey_self (keyN_key _)⟩
theorem IdMap.has_no {D : D1} {L : List En} (h : IdMap D L) {i : Int} (hn : ∀ e ∈ L, e.id ≠ i) : Maps.has D (keyN i) = false := by
  obtain ⟨es, rfl, hp⟩ := h
  rw [Maps.has_eq, List.any_eq_false]
  intro p hp' e
  obtain ⟨x, hx, rfl⟩ := mem_idP.1 (hp.mem_iff.1 hp')
  exact hn x hx (keyN_inj (WideAt.sameKey_eq e))
theorem IdMap.at_yes {D : D1} {L : List En} (h : IdMap D L) (hA : Alone L) {e : En} (he : e ∈ L) (z : D1) : D.atKey (keyN e.id) z = enD e := by
  obtain ⟨es, rfl, hp⟩ := h
  exact WideAt.atKey_mem z (keyN_key _) ((hp.pairwise_iff (fun {a b} (h : a.1 ≠ b.1) => h.symm)).2 (idP_apart hA)) (hp.mem_iff.2 (mem_idP.2 ⟨e, he, rfl⟩))
theorem IdMap.at_no {D : D1} {L : List En} (h : IdMap D L) {i : Int} (hn : ∀ e ∈ L, e.id ≠ i) (z : D1) : D.atKey (keyN i) z = z := by
  obtain ⟨es, rfl, hp⟩ := h
  refine WideAt.atKey_none z ?_
  intro p hp' e
  obtain ⟨x, hx, rfl⟩ := mem_idP.1 (hp.mem_iff.1 hp')
  exact hn x hx (keyN_inj e)
theorem IdMap.put {D : D1} {L L' : List En} (h : IdMap D L) {e : En} (hn : ∀ x ∈ L, x.id ≠ e.id) (hp' : L'.Perm (e :: L)) : IdMap (D.put (keyN e.id) (enD e)) L' := by
  obtain ⟨es, rfl, hp⟩ := h
  refine ⟨_, DataW.put_eq _ _ _, ?_⟩
  have hf : es.filter (notKey (keyN e.id)) = es := by
    rw [List.filter_eq_self]
    intro p hp2
    rw [notKey_iff (keyN_key _)]
    intro e'
    obtain ⟨x, hx, rfl⟩ := mem_idP.1 (hp.mem_iff.1 hp2)
    exact hn x hx (keyN_inj e')
  unfold putKey
  rw [hf]
  have hm : (idP L').Perm ((keyN e.id, enD e) :: idP L) := hp'.map _
  exact (WideShapes.insert_perm _ _).trans ((hp.cons _).trans hm.symm)
theorem IdMap.del {D : D1} {L : List En} (h : IdMap D L) (i : Int) : IdMap (D.del (keyN i)) (L.filter (fun e => decide (e.id ≠ i))) := by
  obtain ⟨es, rfl, hp⟩ := h
  refine ⟨_, DataW.del_eq _ _, ?_⟩
  unfold delKey
  have : idP (L.filter (fun e => decide (e.id ≠ i))) = (idP L).filter (notKey (keyN i)) := by
    unfold idP
    rw [List.filter_map]
    congr 1
    apply List.filter_congr
    intro e _
    simp only [Function.comp]
    cases hk : notKey (keyN i) (keyN e.id, enD e) with
    | true => exact decide_eq_true (fun h' => (notKey_iff (keyN_key _)).1 hk (by rw [h']))
    | false =>
      refine decide_eq_false (fun h' => ?_)
      rw [(notKey_iff (keyN_key i) (p := (keyN e.id, enD e))).2 (fun h2 => h' (keyN_inj h2))] at hk
      cases hk
  rw [this]
  exact hp.filter _
end Go.Proofs.Ythgjedcelcanbaa.idx
