/- Selection by keys: copies and appends of wide items, at a row's block. -/
import Derived.Test.YthgjedcelcanbaaIdx1
import Derived.Laws.CopyRow
import Derived.Lib.AppendZeros
import Derived.Lib.AppendZerosOnto
import Derived.Lib.SliceRun
import Derived.Lib.Walk
import Derived.Lib.Overlaps
import Derived.Laws.Externs
import Derived.Deep.RegionLaw
namespace Go.Proofs.Ythgjedcelcanbaa.idx
set_option maxRecDepth 100000
open Go.RowKit Go.Proofs.Ythgjedcelcanbaa.own Go.Lib
def lay (L : List Value) (o : Nat) (cs : List Value) : List Value := L.take o ++ cs ++ L.drop (o + cs.length)
theorem lay_len {L : List Value} {o : Nat} {cs : List Value} (h : o + cs.length ≤ L.length) : (lay L o cs).length = L.length := by simp [lay]; omega
theorem only_setRow (w : World) (g : Nat) (cs : Array Value) : Only (· = g) w (w.setRow g cs) :=
  ⟨rfl, rfl, rfl, by simp [World.setRow], fun k _ h => setRow_other w g k cs h⟩
theorem run_copy_wide {P : Program} (w : World) (dT sT ty elem : TypeId) (i : TypeInfo) (s : Nat) (hu : P.underlying dT = some (.slice elem)) (hi : P.info? elem = some i) (hs : i.size = s) (g o dLen dCap : Nat) (a : Addr) (sLen sCap : Nat) (cur : Array Value) (t : TypeId) (cs : List Value) (n : Nat)
    (hg : w.heap[g]? = some (.cells cur t (0, 0))) (hn : n = Nat.min sLen dLen) (hl : cs.length = n * s)
    (hsrc : ∀ j v, cs[j]? = some v → w.cell? (a.add j) = some v) (hfit : o + cs.length ≤ cur.size) (h1 : ∀ v ∈ cs, v.oneCell' = true) :
    (Builtin.copy_ #[dT, sT] ty #[.slice (some ⟨g, o, none⟩) dLen dCap, .slice (some a) sLen sCap]).run P w =
      .ok (goInt n) (w.setRow g (lay cur.toList o cs).toArray) := by
  have h2 := run_loadCells_list (P := P) w a cs hsrc
  rw [hl] at h2
  have hst := run_storeCells_at P g o t cs 0 cur w hg (by simpa using hfit) h1
  simp [Builtin.copy_, run_underlying hu, Builtin.lenOf, Builtin.firstCells, sizeOf, typeInfo, hi, hs, ← hn, h2, hst, lay]
theorem append_types {P : Program} (w : World) (t t' ty E E' : TypeId) (ht : P.underlying t = some (.slice E)) (ht' : P.underlying t' = some (.slice E')) (ao : Option Addr) (n c : Nat) (u : Value) :
    (Builtin.append_ #[t, t'] ty #[.slice ao n c, u]).run P w = (Builtin.append_ #[t, t] ty #[.slice ao n c, u]).run P w := by
  unfold Builtin.append_
  simp only [List.getElem?_toArray, List.getElem?_cons_zero, List.getElem?_cons_succ, Sem.run_bind, run_underlying ht, run_underlying ht', Result.andThen_ok, Sem.run_pure]
theorem run_append_wide {P : Program} (w : World) (t t' ty E E' : TypeId) (i : TypeInfo) (s : Nat) (ht : P.underlying t = some (.slice E)) (ht' : P.underlying t' = some (.slice E')) (hi : P.info? E = some i) (hs : i.size = s) (g o n c : Nat) (a : Addr) (m mc : Nat) (cur : Array Value) (tt : TypeId) (cs : List Value)
    (hg : w.heap[g]? = some (.cells cur tt (0, 0))) (hroom : n + m ≤ c) (hl : cs.length = m * s)
    (hsrc : ∀ j v, cs[j]? = some v → w.cell? (a.add j) = some v) (hfit : o + n * s + cs.length ≤ cur.size) (h1 : ∀ v ∈ cs, v.oneCell' = true) :
    (Builtin.append_ #[t, t'] ty #[.slice (some ⟨g, o, none⟩) n c, .slice (some a) m mc]).run P w =
      .ok (.slice (some ⟨g, o, none⟩) (n + m) c) (w.setRow g (lay cur.toList (o + n * s) cs).toArray) := by
  have h2 := run_loadCells_list (P := P) w a cs hsrc
  rw [hl] at h2
  have hst := run_storeCells_at P g (o + n * s) tt cs 0 cur w hg (by simpa using hfit) h1
  have hadd : (⟨g, o, none⟩ : Addr).add (n * s) = ⟨g, o + n * s, none⟩ := by unfold Addr.add; split <;> simp_all
  simp [Builtin.append_, run_underlying ht, run_underlying ht', Builtin.lenOf, Builtin.firstCells, sizeOf, typeInfo, hi, hs, h2, hroom, hadd, hst, lay]
theorem run_clear_wide {P : Program} (w : World) (t ty E : TypeId) (zz : Value) (s : Nat) (ht : P.underlying t = some (.slice E)) (hz : ∀ w, (zeroValue E).run P w = .ok zz w) (hzs : zz.cells.size = s) (g o n c : Nat) (cur : Array Value) (tt : TypeId)
    (hg : w.heap[g]? = some (.cells cur tt (0, 0))) (hn : 0 < n) (hfit : o + n * s ≤ cur.size) (h1 : ∀ v ∈ zz.cells.toList, v.oneCell' = true) :
    (Builtin.clear_ #[t] ty #[.slice (some ⟨g, o, none⟩) n c]).run P w = .ok (.tuple #[]) (w.setRow g (lay cur.toList o (Builtin.zeroCells zz.cells n).toList).toArray) := by
  have hlen : (Builtin.zeroCells zz.cells n).toList.length = n * s := by simp [Builtin.zeroCells, hzs]
  have hst := run_storeCells_at P g o tt (Builtin.zeroCells zz.cells n).toList 0 cur w hg (by simpa [hlen] using hfit) (by
    intro v hv
    simp only [Builtin.zeroCells, Array.toList_map, List.mem_map] at hv
    obtain ⟨k, hk, rfl⟩ := hv
    have hk' : k < n * zz.cells.size := by simpa using hk
    have hpos : 0 < zz.cells.size := by
      rcases Nat.eq_zero_or_pos zz.cells.size with h | h
      · rw [h] at hk'; simp at hk'
      · exact h
    have hlt := Nat.mod_lt k hpos
    rw [getElem!_pos zz.cells _ hlt]
    exact h1 _ (by simp))
  have hne : n ≠ 0 := by omega
  obtain ⟨m, rfl⟩ : ∃ m, n = m + 1 := ⟨n - 1, by omega⟩
  simp [Builtin.clear_, run_underlying ht, hz, hst, lay]
theorem infoE : (Try.prog.info? 60).map (fun i => (i.zero, i.size, i.bytes)) = some (some (.agg #[.int .i64 0, .int .i64 0, .string ⟨#[]⟩, .int .i64 0, .int .i64 0]), 5, 48) := by kernel_rfl
end Go.Proofs.Ythgjedcelcanbaa.idx
