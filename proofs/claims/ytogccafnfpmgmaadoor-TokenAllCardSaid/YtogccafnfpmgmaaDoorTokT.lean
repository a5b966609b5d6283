/- Tokens: the law of layout. -/
import Derived.Test.YtogccafnfpmgmaaDoorTokS
namespace Go.Proofs.YtogccafnfpmgmaaDoor.toks
open Go.RowKit Go.Proofs.YtogccafnfpmgmaaDoor.own
abbrev aggT (t : Tk) : Value := .agg #[.int .i64 t.kd, .string (bstr t.s), .int .i64 t.n, .int .i64 t.at_, .bool t.lay]
theorem equalT (t : Tk) (w : World) : (Op.equalIn 10000 30 (aggT t) (aggT t)).run Tryd.prog w = .ok true w := by
  rw [run_equalIn_agg w 9999 30 _ _ (by kernel_rfl) (by kernel_rfl)]
  simp [Program.fieldsOf, Tryd.underlying30, Op.eqFields, part, go_sem, run_equalIn_int, run_equalIn_string, run_equalIn_bool, Tryd.underlying3, Tryd.underlying9, Tryd.underlying4, Tryd.isAgg3, Tryd.isAgg9, Tryd.isAgg4]
theorem neqT (t : Tk) (w : World) : (binOp .neq 30 (aggT t) (aggT t)).run Tryd.prog w = .ok (.bool false) w := by
  rw [run_neq_struct, equalT]
  rfl
theorem eqlT (t : Tk) (w : World) : (binOp .eql 30 (aggT t) (aggT t)).run Tryd.prog w = .ok (.bool true) w := by
  rw [run_eql_struct, equalT]
  rfl
theorem scanR_no {r : List UInt8} {next : Nat} {e : Int} (h : scanR r = .no next e) : next ≤ r.length := by
  have h1 := scanF_R (bs := r) (i := 0) (Nat.zero_le _)
  rw [List.drop_zero, h] at h1
  have hle := skR_le r
  unfold scanR at h
  split at h
  · cases h; exact hle
  · split at h
    · cases h; exact Nat.le_refl _
    · cases hr : readF (r.drop (skR r).1) with
      | no e => rw [hr] at h; cases h; exact hle
      | ok kd s n len => rw [hr] at h; cases h
def boundA (k : Nat) : AR → Prop
  | .ok l n => n ≤ k ∧ (∀ t ∈ l, t.at_ < k) ∧ ∀ (i : Nat) (s t : Tk), l[i]? = some s → l[i + 1]? = some t → s.at_ < t.at_
  | .no n _ => n ≤ k
theorem allR_bound : ∀ (m : Nat) (r : List UInt8), boundA r.length (allR m r)
  | 0, r => Nat.zero_le _
  | m + 1, r => by
    rw [allR]
    cases hs : scanR r with
    | no next e =>
      have := scanR_no hs
      simp only
      split
      · exact ⟨this, fun t ht => by simp at ht, fun i s t h _ => by simp at h⟩
      · exact this
    | ok kd s n at_ lay next =>
      obtain ⟨h1, h2⟩ := scanR_ok hs
      have ih := allR_bound m (r.drop next)
      rw [List.length_drop] at ih
      simp only
      cases ha : allR m (r.drop next) with
      | no n' e =>
        rw [ha] at ih
        show next + n' ≤ r.length
        have : n' ≤ r.length - next := ih
        omega
      | ok l n' =>
        rw [ha] at ih
        obtain ⟨i1, i2, i3⟩ := ih
        refine ⟨by show next + n' ≤ r.length; omega, fun t ht => ?_, fun i x y hx hy => ?_⟩
        · rcases List.mem_cons.1 ht with rfl | h
          · show at_ < r.length; omega
          · obtain ⟨u, hu, rfl⟩ := List.mem_map.1 h
            have := i2 u hu
            show next + u.at_ < r.length
            omega
        · have hy' : (l.map (shT next))[i]? = some y := hy
          rw [List.getElem?_map] at hy'
          obtain ⟨y', hy1, rfl⟩ := Option.map_eq_some_iff.1 hy'
          cases i with
          | zero =>
            have hx' : (⟨kd, s, n, at_, lay⟩ : Tk) = x := Option.some.inj hx
            subst hx'
            show at_ < next + y'.at_
            omega
          | succ i =>
            have hx' : (l.map (shT next))[i]? = some x := hx
            rw [List.getElem?_map] at hx'
            obtain ⟨x', hx1, rfl⟩ := Option.map_eq_some_iff.1 hx'
            have := i3 i x' y' hx1 hy1
            show next + x'.at_ < next + y'.at_
            omega
theorem allF_bound (bs : List UInt8) : boundA bs.length (allF bs) := by rw [allF_R]; exact allR_bound _ _
theorem lay_len (l : List Tk) : (layL l).length = l.length := by cases l <;> rfl
theorem lay_get {l : List Tk} {k j : Nat} {t : Tk} (h : l[j]? = some t) : (layL (l.map (shT k)))[j]? = some ⟨t.kd, t.s, t.n, k + t.at_, t.lay || decide (j = 0)⟩ := by
  cases l with
  | nil => cases h
  | cons x l =>
    cases j with
    | zero =>
      cases h
      show some (layT (shT k t)) = _
      unfold layT shT
      simp
    | succ j =>
      have h' : l[j]? = some t := h
      show (l.map (shT k))[j]? = _
      rw [List.getElem?_map, h']
      show some (shT k t) = _
      unfold shT
      simp
/-- A list of bytes that came in. -/
structure ArgB (ao : Option Addr) (cap : Nat) (bs : List UInt8) (w : World) : Prop where
  byts : Byts ao bs w
  fits : bs.length ≤ cap
  nul : ao = none → cap = 0
  spot : ∀ g, ao = some g → g.spot = none
theorem ArgB.later {ao : Option Addr} {cap : Nat} {bs : List UInt8} {w w' : World} (h : ArgB ao cap bs w) (ho : Only (fun _ => False) w w') : ArgB ao cap bs w' := ⟨h.byts.later ho, h.fits, h.nul, h.spot⟩
/-- A token of a row in memory. -/
theorem RowOf.tk {B : Nat} {ao : Option Addr} {cap : Nat} {l : List Tk} {w : World} (h : RowOf encT 5 30 B ao cap l w) {j : Nat} {t : Tk} (hj : l[j]? = some t) :
    ∃ g, ao = some ⟨g, 0, none⟩ ∧ B ≤ g ∧ g < w.heap.size ∧ w.cell? ⟨g, j * 5, none⟩ = some (.int .i64 t.kd) ∧ w.cell? ⟨g, j * 5 + 1, none⟩ = some (.string (bstr t.s)) ∧ w.cell? ⟨g, j * 5 + 2, none⟩ = some (.int .i64 t.n) ∧ w.cell? ⟨g, j * 5 + 3, none⟩ = some (.int .i64 t.at_) ∧ w.cell? ⟨g, j * 5 + 4, none⟩ = some (.bool t.lay) := by
  obtain ⟨g, rfl, hg, hc⟩ := h.at lieT j t hj
  refine ⟨g, rfl, hg, (h.head _ rfl).2.2, ?_, ?_, ?_, ?_, ?_⟩
  · exact (hc 0 (by decide)).1
  · exact (hc 1 (by decide)).1
  · exact (hc 2 (by decide)).1
  · exact (hc 3 (by decide)).1
  · exact (hc 4 (by decide)).1
end Go.Proofs.YtogccafnfpmgmaaDoor.toks
