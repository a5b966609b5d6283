/- Tokens: bytes made and put behind each other; tokens compared. -/
import Derived.Laws.StructEq
import Derived.BigQuiet
import Derived.Test.YtogccafnfpmgmaaDoorTokR
namespace Go.Proofs.YtogccafnfpmgmaaDoor.toks
open Go.RowKit Go.Proofs.YtogccafnfpmgmaaDoor.own
theorem madeU (n : Nat) : (madeCells (Value.int .u8 0).cells (n * 1)).toList = (List.replicate n (0 : UInt8)).flatMap encU := by
  rw [flat_bytes]
  apply List.ext_getElem
  · simp [madeCells, Lib.byteCells]
  · intro i h1 h2
    simp [madeCells, Value.cells, Nat.mod_one, Lib.byteCells]
/-- make([]byte, n). -/
theorem make_bytes (w : World) (n : Nat) (hn : n ≤ 1000000) : ∃ M : Array Value, (Instr.makeSlice 22 (.int .i64 n) (.int .i64 n)).run Tryd.prog w = .ok (.slice (some ⟨w.heap.size, 0, none⟩) n n) (w.alloc (.cells M 5)) ∧ RowOf encU 1 5 w.heap.size (some ⟨w.heap.size, 0, none⟩) n (List.replicate n 0) (w.alloc (.cells M 5)) := by
  obtain ⟨i0, hinf, hz0, hz1, hz2⟩ := info_parts infoU
  refine ⟨madeCells (Value.int .u8 0).cells (n * 1), ?_, ?_⟩
  · have h := run_make (P := Tryd.prog) w 22 5 i0 (.int .u8 0) Tryd.underlying22 hinf hz0 .i64 .i64 (n : Int) (n : Int) (by omega) (by omega) (by rw [hz2]; omega) (by omega)
    rw [hz1] at h
    simpa using h
  · have h := World.ownsRow_lit (base := w.heap.size) (e := 5) (size := 1) w (madeCells (Value.int .u8 0).cells (n * 1)) n (Nat.le_refl _) (by unfold maxLen; omega) (size_madeCells _ _)
    rw [madeU] at h
    unfold RowOf
    simpa using h
theorem bytes_cells {b off : Nat} {bs : List UInt8} {W : World} (h : Byts (some ⟨b, off, none⟩) bs W) : ∀ j u, (bs.flatMap encU)[j]? = some u → W.cell? ((⟨b, off, none⟩ : Addr).add j) = some u := fun j u hu => by
  rw [flat_bytes] at hu
  unfold Lib.byteCells at hu
  rw [List.getElem?_map] at hu
  obtain ⟨x, hx, rfl⟩ := Option.map_eq_some_iff.1 hu
  obtain ⟨b', off', he, _, hc⟩ := h j x hx
  cases he
  have e : (⟨b, off, none⟩ : Addr).add j = ⟨b, off + j, none⟩ := by unfold Addr.add; split <;> simp_all
  rw [e]
  exact hc
theorem flatU_len (l : List UInt8) : (l.flatMap encU).length = l.length := by rw [flat_bytes, Lib.byteCells_length]
theorem flatU_one (l : List UInt8) : ∀ u ∈ l.flatMap encU, u.oneCell' = true := by
  intro u hu
  obtain ⟨x, _, hx⟩ := List.mem_flatMap.1 hu
  exact lieU.one x u hx
/-- append(own, bytes...). -/
theorem wp_append_bytes {w : World} {ops : Array Oper} {rest : List Oper} {o : Oper} {a : Act} {Q : Exit → Act → World → Prop}
    (hgd : o.guard = none) (sl x : Operand) (ho : o.op = .call { callee := .builtin .append, args := #[sl, x], argTypes := #[22, 22] })
    (B : Nat) (ao bo : Option Addr) (cap bc : Nat) (xs bs : List UInt8) (hs : a.eval sl = .slice ao xs.length cap) (hrow : RowOf encU 1 5 B ao cap xs w) (hx : a.eval x = .slice bo bs.length bc) (hb : Byts bo bs w) (hbc : bo = none → bc = 0) (hsp : ∀ g, bo = some g → g.spot = none)
    (hl : xs.length + bs.length ≤ 1000000) (hB : B ≤ w.heap.size)
    (h : ∀ ao' cap' w', RowOf encU 1 5 B ao' cap' (xs ++ bs) w' → Only (RowAt ao) w w' → NewRow w.heap.size ao ao' → wpList Tryd.prog ops Q rest (a.put o.dst (.slice ao' (xs ++ bs).length cap')) w') :
    wpList Tryd.prog ops Q (o :: rest) a w := by
  obtain ⟨i0, hinf, hz0, hz1, hz2⟩ := info_parts infoU
  cases bo with
  | none =>
    have e0 : bs = [] := by
      cases bs with
      | nil => rfl
      | cons y t =>
        obtain ⟨b, off, he, _⟩ := hb 0 y rfl
        cases he
    subst e0
    rw [hbc rfl] at hx
    refine wpList_plain hgd fun K hK => ?_
    unfold Oper.wp execOp
    have hr := run_append_owned_none (P := Tryd.prog) (w := w) B 22 o.type 5 i0 1 Tryd.underlying22 hinf _ _ _ hrow
    simp only [ho, resolve, invoke, builtin, Sem.run_bind, Sem.run_pure, Result.andThen_ok, List.map_toArray, List.map_cons, List.map_nil, hs, hx, List.length_nil, hr]
    refine hK _ _ ?_
    have := h ao cap w (by rw [List.append_nil]; exact hrow) (Only.refl _ _) (NewRow.refl _ _)
    rw [List.append_nil] at this
    exact this
  | some g =>
    obtain ⟨b, off, sp⟩ := g
    obtain rfl : sp = none := hsp _ rfl
    have hlen : (xs ++ bs).length = xs.length + bs.length := List.length_append
    refine wpList_append_own_at w hgd sl x 22 ho B 5 i0 (.int .u8 0) 1 1 Tryd.underlying22 hinf hz0 hz1 hz2 rfl (by decide) _ xs.length _ hs hrow ⟨b, off, none⟩ bs.length bc (bs.flatMap encU) hx (by rw [flatU_len]; omega) (bytes_cells hb) (flatU_one bs) (by unfold maxLen; omega) (by omega) hB ?_
    intro v' w' hown' hgrow hnil hat
    obtain ⟨ao', cap', rfl⟩ := owned_shape hown'
    have hown2 : RowOf encU 1 5 B ao' cap' (xs ++ bs) w' := by
      unfold RowOf
      rw [hlen, List.flatMap_append]
      exact hown'
    rw [← hlen]
    refine h ao' cap' w' hown2 ?_ ?_
    · refine (Only.grown hgrow).mono (fun k _ hk => ?_)
      cases ao with
      | none => simp [Value.ownBlock] at hk
      | some g => exact ⟨g, rfl, by simpa [Value.ownBlock] using hk⟩
    · intro g hg
      subst hg
      have hh := hown2.head g rfl
      rcases hat with hat | hat
      · cases ao with
        | none => simp [Value.ownBlock] at hat
        | some g' =>
          have hg' := hrow.head g' rfl
          simp only [Value.ownBlock, Option.some.injEq] at hat
          left
          rw [hg'.1, hh.1, hat]
      · simp only [Value.ownBlock, Option.some.injEq] at hat
        right
        omega
/-- The bytes of a row that the call owns. -/
theorem RowOf.byts {B : Nat} {ao : Option Addr} {cap : Nat} {xs : List UInt8} {W : World} (h : RowOf encU 1 5 B ao cap xs W) : Byts ao xs W := fun i x hx => by
  obtain ⟨g, rfl, _, hc⟩ := h.at lieU i x hx
  refine ⟨g, 0, rfl, (h.head _ rfl).2.2, ?_⟩
  have := (hc 0 (by decide)).1
  rw [Nat.zero_add]
  simpa [encU] using this
end Go.Proofs.YtogccafnfpmgmaaDoor.toks
