/- A map of functors ranged over: what a key is, what an entry is. -/
import Derived.Test.YtoppfhbpmmepaaaDoorFunc13
namespace Go.Proofs.YtoppfhbpmmepaaaDoor.functors
open Go.RowKit Go.Proofs.YtoppfhbpmmepaaaDoor.own Go.Maps Go.WideMaps
variable {sl : List FSlot} {w : World}
set_option maxRecDepth 100000 in
theorem lit_int {d : Nat} {c : Value} {ls : List Lit} (h : Tryd.prog.keyLits (d + 1) 3 [c] = some ls) : ∃ a : Int, c = .int .i64 a ∧ ls = [.int .i64 a] ∧ (Lit.int .i64 a).wf = true := by
  unfold Program.keyLits at h
  rw [Tryd.underlying3] at h
  cases c with
  | int q a =>
    simp only at h
    split at h
    · rename_i e
      obtain ⟨rfl, e2⟩ := e
      simp only [Option.some.injEq] at h
      exact ⟨a, rfl, h.symm, e2⟩
    · cases h
  | _ => simp at h
set_option maxRecDepth 100000 in
theorem invF {key : Value} {kl : Lit} (h : keyOf Tryd.prog 90 key = some kl) : ∃ a n : Int, key = .agg #[.int .i64 a, .int .i64 n] ∧ kl = keyI a n ∧ (Lit.int .i64 a).wf = true ∧ (Lit.int .i64 n).wf = true := by
  have h' := h
  unfold keyOf at h
  rw [Tryd.underlying90] at h
  simp only at h
  split at h
  · rename_i e
    simp only [Bool.and_eq_true] at e
    have e2 := e.2
    cases key with
    | agg cs =>
      simp only [Value.formed, Tryd.underlying90, cellsF, beq_iff_eq] at e2
      obtain ⟨l⟩ := cs
      obtain ⟨c0, c1, rfl⟩ : ∃ c0 c1, l = [c0, c1] := by
        match l, e2 with
        | [c0, c1], _ => exact ⟨c0, c1, rfl⟩
      rw [Option.map_eq_some_iff] at h
      obtain ⟨ls, hls, _⟩ := h
      obtain ⟨d, hd⟩ : ∃ d, Tryd.prog.types.size = d + 1 := Nat.exists_eq_succ_of_ne_zero (Nat.ne_of_gt (Nat.lt_of_le_of_lt (Nat.zero_le _) rowF))
      rw [hd] at hls
      have hk : (∃ a, c0 = .int .i64 a ∧ (Lit.int .i64 a).wf = true) ∧ (∃ a, c1 = .int .i64 a ∧ (Lit.int .i64 a).wf = true) := by
        unfold Program.keyLits at hls
        simp only [Tryd.underlying90, Value.cells, cellsF, cellsI, List.length_cons, List.length_nil] at hls
        split at hls
        · cases h0 : Tryd.prog.keyLits (d + 1) 3 [c0] with
          | none => simp [h0, cellsI] at hls
          | some l0 =>
            cases h1 : Tryd.prog.keyLits (d + 1) 3 [c1] with
            | none => simp [h0, h1, cellsI] at hls
            | some l1 =>
              obtain ⟨a, ea, _, wa⟩ := lit_int h0
              obtain ⟨n, en, _, wn⟩ := lit_int h1
              exact ⟨⟨a, ea, wa⟩, ⟨n, en, wn⟩⟩
        · cases hls
      obtain ⟨⟨a, rfl, wa⟩, ⟨n, rfl, wn⟩⟩ := hk
      have := keyOfI wa wn
      rw [show (Value.agg ⟨[.int .i64 a, .int .i64 n]⟩) = .agg #[.int .i64 a, .int .i64 n] from rfl, this] at h'
      simp only [Option.some.injEq] at h'
      exact ⟨a, n, rfl, h'.symm, wa, wn⟩
    | _ => simp [Value.formed, Tryd.underlying90] at e2
  · cases h
/-- An entry of the map is a functor at its slot. -/
theorem MapOf.entry {D : D1} (h : MapOf D sl) {kl : Lit} (hh : Maps.has D kl = true) : ∃ (j : Nat) (x : FSlot), sl[j]? = some x ∧ x.used = true ∧ kl = keyN x.name := by
  obtain ⟨es, rfl, hp⟩ := h
  rw [Maps.has_eq, List.any_eq_true] at hh
  obtain ⟨p, hp2, e⟩ := hh
  obtain ⟨j, x, hx, hu, rfl⟩ := mem_prs.1 (hp.mem_iff.1 hp2)
  exact ⟨j, x, hx, hu, (WideAt.sameKey_eq e).symm⟩
end Go.Proofs.YtoppfhbpmmepaaaDoor.functors
