/- Tokens: a builder of text. -/
import Derived.Lib.OthersKept
import Derived.Lib.FrozenHead2
import Derived.Test.YtogccafnfpmgmaaDoorTokL
namespace Go.Proofs.YtogccafnfpmgmaaDoor.toks
open Go.RowKit Go.Proofs.YtogccafnfpmgmaaDoor.own
/-- The builder in block b holds these bytes; its row lies behind B. -/
def Bld (B b : Nat) (l : List UInt8) (W : World) : Prop := B ≤ b ∧ ∃ pa ao cap, W.heap[b]? = some (.cells #[pa, .slice ao l.length cap] 40 (0, 0)) ∧ (pa = .pointer none ∨ pa = .pointer (some ⟨b, 0, none⟩)) ∧ RowOf encU 1 5 B ao cap l W ∧ ∀ g, ao = some g → g.block ≠ b
theorem flat_bytes (l : List UInt8) : l.flatMap encU = Lib.byteCells l := by
  induction l with
  | nil => rfl
  | cons x r ih => rw [List.flatMap_cons, ih]; rfl
theorem Bld.isF {B b : Nat} {l : List UInt8} {W : World} (h : Bld B b l W) : Lib.IsBuilderF 40 5 B b (Lib.byteCells l) W := by
  obtain ⟨hB, pa, ao, cap, hb, hp, hr, hne⟩ := h
  have hat : Lib.BuilderAtF 40 5 B b pa (Lib.byteCells l) W := by
    refine ⟨hB, _, hb, ?_, ?_⟩
    · rw [Lib.byteCells_length, ← flat_bytes]
      exact World.ownsRowF_of hr
    · intro e
      cases ao with
      | none => cases e
      | some g => exact hne g rfl (by simpa [Value.ownBlock] using e)
  rcases hp with rfl | rfl
  · exact .inl hat
  · exact .inr hat
theorem Bld.new (w : World) : Bld w.heap.size w.heap.size [] (w.alloc (.cells #[.pointer none, .slice none 0 0] 40)) :=
  ⟨Nat.le_refl _, _, none, 0, heap_alloc_new w _, .inl rfl, RowOf.nil _ _ _ _ _, fun g e => by cases e⟩
/-- What a writer may turn: the builder, and rows of bytes behind B. -/
def BF (B b : Nat) (w : World) (q : Nat) : Prop := B ≤ q ∧ (q = b ∨ ∃ cs, w.heap[q]? = some (.cells cs 5 (0, 0)))
theorem row_kind {B : Nat} {ao : Option Addr} {cap : Nat} {l : List UInt8} {W : World} (h : RowOf encU 1 5 B ao cap l W) (g : Addr) (hg : ao = some g) : B ≤ g.block ∧ ∃ cs, W.heap[g.block]? = some (.cells cs 5 (0, 0)) := by
  rcases h.2 with ⟨h1, h2⟩ | ⟨g', cap', cur, hv, hb, hgg, _⟩
  · subst hg; simp at h1
  · subst hg
    simp only [Value.slice.injEq, Option.some.injEq] at hv
    rw [hv.1]
    exact ⟨hb, cur, hgg⟩
theorem sizeB : ∃ j, Tryd.prog.info? 40 = some j ∧ j.size = 2 := by
  obtain ⟨j, hj, hjs⟩ := Option.map_eq_some_iff.1 (show (Tryd.prog.info? 40).map (·.size) = some 2 by kernel_rfl)
  exact ⟨j, hj, hjs⟩
theorem liesB : liesAt Tryd.prog Tryd.prog.depth 40 (2 / Tryd.prog.cellsOf 40) 0 40 1 = true := by kernel_rfl
set_option maxRecDepth 100000 in
set_option maxHeartbeats 2000000 in
theorem copyCheck_any (b : Nat) (pa v : Value) (w : World) (hb : w.heap[b]? = some (.cells #[pa, v] 40 (0, 0))) (hp : pa = .pointer none ∨ pa = .pointer (some ⟨b, 0, none⟩)) :
    Calls Tryd.prog 33 #[.pointer (some ⟨b, 0, none⟩)] w fun e w' => e = .returned (.tuple #[]) ∧ w'.heap[b]? = some (.cells #[.pointer (some ⟨b, 0, none⟩), v] 40 (0, 0)) ∧ Only (fun q => q = b) w w' := by
  obtain ⟨j, hj, hjs⟩ := sizeB
  have c0 : w.cell? ⟨b, 0, none⟩ = some pa := cell_of_blk hb 0
  have f0 := free_of_blk hb 0
  have hsh : w.shape? b = some (40, 2) := by simp [World.shape?, hb]
  rcases hp with rfl | rfl
  · go_enter Tryd.func33, Tryd.ntmps33
    go_wp2_with fail
    rw [Lib.run_to_unsafe w ⟨b, 0, none⟩ Tryd.underlying38 Tryd.underlying65 hj (by rw [hjs]; decide) hsh (Nat.zero_lt_succ 1)]
    simp only [Result.andThen]
    rw [Oper.upon_value]
    go_wp2
    rw [run_callFunc_extern Tryd.func54 (by kernel_rfl) (by kernel_rfl) (by kernel_rfl) (e := Extern.AbiNoEscape.same) (by kernel_rfl)]
    rw [Lib.run_noEscape]
    simp only [Result.andThen]
    rw [Oper.upon_value]
    go_wp2
    rw [Lib.run_from_unsafe w ⟨b, 0, none⟩ Tryd.underlying65 Tryd.underlying38 hj hsh liesB]
    simp only [Result.andThen]
    rw [Oper.upon_value]
    go_wp2
    go_end0
    exact ⟨rfl, by simpa using blk_set hb 0 (.pointer (some ⟨b, 0, none⟩)), Only.setCell (S := fun q => q = b) w (p := ⟨b, 0, none⟩) rfl _⟩
  · go_enter Tryd.func33, Tryd.ntmps33
    go_wp2_with fail
    rw [Lib.run_neq_ptr_same w _ Tryd.underlying38 hj]
    go_wp2
    go_end0
    exact ⟨rfl, hb, Only.refl _ _⟩
set_option maxRecDepth 100000 in
set_option maxHeartbeats 4000000 in
theorem writeByte_any (B b : Nat) (l : List UInt8) (x : UInt8) (w : World) (h : Bld B b l w) (hl : l.length ≤ 1000000) (hB : B ≤ w.heap.size) :
    Calls Tryd.prog 17 #[.pointer (some ⟨b, 0, none⟩), .int .u8 (iv x)] w fun e w' => e = .returned .nilIface ∧ Bld B b (l ++ [x]) w' ∧ Only (BF B b w) w w' := by
  obtain ⟨i0, hinf, hz0, hz1, hz2⟩ := info_parts infoU
  obtain ⟨hBb, pa, ao, cap, hb, hp, hr, hne⟩ := h
  have hbs := lt_of_block hb
  go_enter Tryd.func17, Tryd.ntmps17
  go_wp2_with fail
  refine (copyCheck_any b pa _ _ hb hp).mono ?_
  rintro e w1 ⟨rfl, hb1, ho1⟩
  have hr1 : RowOf encU 1 5 B ao cap l w1 := hr.only ho1 (fun g hg => hne g hg)
  have c1 : w1.cell? ⟨b, 1, none⟩ = some (.slice ao l.length cap) := cell_of_blk hb1 1
  have f1 := free_of_blk hb1 1
  go_wp2_with (first | (at_builtin; apply Classical.byContradiction; intro hstop) | fail)
  apply hstop
  clear hstop
  refine wp_append_one lieU rfl (.tmp 11) (.tmp 13) 22 rfl B 5 i0 _ 1 Tryd.underlying22 hinf hz0 hz1 hz2 rfl (by omega) w1 ao cap l x [.int .u8 (iv x)] rfl rfl hr1 rfl (by omega) (Nat.le_trans hB ho1.size) ?_
  intro ao' cap' w2 hr2 ho2 hnew
  have hb2 : w2.heap[b]? = some (.cells #[.pointer (some ⟨b, 0, none⟩), .slice ao l.length cap] 40 (0, 0)) := by
    rw [ho2.block b (by have := ho1.size; omega) (fun e => by obtain ⟨g, hg, e2⟩ := e; exact hne g hg e2.symm)]
    exact hb1
  have d0 := free_of_blk hb2 1
  have d1 : w2.cell? ⟨b, 1, none⟩ = some (.slice ao l.length cap) := cell_of_blk hb2 1
  have hlen : (l ++ [x]).length = l.length + 1 := by simp
  have hne2 : ∀ g, ao' = some g → g.block ≠ b := fun g hg => by
    rcases hnew g hg with h1 | h1
    · exact hne g h1
    · have := ho1.size; omega
  have HB2 := Lib.hid hb2
  have HR2 := Lib.hid hr2
  have HO : Hid (Only (BF B b w) w w2) := Lib.hid ((ho1.mono (fun q hq e => ⟨by rw [e]; exact hBb, .inl e⟩)).trans ho2 (fun q hq e => by
    obtain ⟨g, hg, rfl⟩ := e
    obtain ⟨h1, h2⟩ := row_kind hr g hg
    exact ⟨h1, .inr h2⟩))
  clear hb2 hr2 ho2
  clear hlen
  generalize hL : (l ++ [x]).length = L at *
  go_wp2_with fail
  go_ret
  refine ⟨rfl, ⟨hBb, _, ao', cap', by rw [hL]; simpa using blk_set HB2.out 1 (.slice ao' L cap'), .inr rfl, HR2.out.only (Only.setCell (S := fun q => q = b) w2 (p := ⟨b, 1, none⟩) rfl _) (fun g hg => hne2 g hg), hne2⟩, HO.out.trans (Only.setCell (S := fun q => q = b) w2 (p := ⟨b, 1, none⟩) rfl _) (fun q hq e => ⟨by rw [e]; exact hBb, .inl e⟩)⟩
theorem str_bytes (s : List UInt8) : Lib.strCells (bstr s) = s.flatMap encU := by rw [flat_bytes]; rfl
set_option maxRecDepth 100000 in
set_option maxHeartbeats 4000000 in
theorem writeString_any (B b : Nat) (l s : List UInt8) (w : World) (h : Bld B b l w) (hl : l.length + s.length ≤ 1000000) (hB : B ≤ w.heap.size) :
    Calls Tryd.prog 19 #[.pointer (some ⟨b, 0, none⟩), .string (bstr s)] w fun e w' => (∃ v, e = .returned v) ∧ Bld B b (l ++ s) w' ∧ Only (BF B b w) w w' := by
  obtain ⟨i0, hinf, hz0, hz1, hz2⟩ := info_parts infoU
  obtain ⟨hBb, pa, ao, cap, hb, hp, hr, hne⟩ := h
  have hbs := lt_of_block hb
  have hsz : (bstr s).size = s.length := by simp [bstr, ByteArray.size]
  go_enter Tryd.func19, Tryd.ntmps19
  go_wp2_with fail
  refine (copyCheck_any b pa _ _ hb hp).mono ?_
  rintro e w1 ⟨rfl, hb1, ho1⟩
  have hr1 : RowOf encU 1 5 B ao cap l w1 := hr.only ho1 (fun g hg => hne g hg)
  have c1 : w1.cell? ⟨b, 1, none⟩ = some (.slice ao l.length cap) := cell_of_blk hb1 1
  have f1 := free_of_blk hb1 1
  go_wp2_with (first | (at_builtin; apply Classical.byContradiction; intro hstop) | fail)
  apply hstop
  clear hstop
  refine Lib.wpList_append_own_string _ rfl (.tmp 12) (.tmp 13) 22 9 rfl B 5 i0 Tryd.underlying22 Tryd.underlying9 hinf hz0 hz1 hz2 (.slice ao l.length cap) l.length (l.flatMap encU) rfl hr1 (bstr s) rfl (by unfold maxLen; omega) (by omega) (Nat.le_trans hB ho1.size) ?_
  intro v' w2 hown hgrow _
  obtain ⟨ao', cap', rfl⟩ := owned_shape hown
  have hlen : (l ++ s).length = l.length + (bstr s).size := by rw [List.length_append, hsz]
  have HR2 : Hid (RowOf encU 1 5 B ao' cap' (l ++ s) w2) := Lib.hid (by
    unfold RowOf
    rw [hlen, List.flatMap_append, ← str_bytes s]
    exact hown)
  have ho2 : Only (RowAt ao) w1 w2 := (Only.grown hgrow).mono (fun q hq e => by
    cases ao with
    | none => simp [Value.ownBlock] at e
    | some g => exact ⟨g, rfl, by simpa [Value.ownBlock] using e⟩)
  have hb2 : w2.heap[b]? = some (.cells #[.pointer (some ⟨b, 0, none⟩), .slice ao l.length cap] 40 (0, 0)) := by
    rw [ho2.block b (by have := ho1.size; omega) (fun e => by obtain ⟨g, hg, e2⟩ := e; exact hne g hg e2.symm)]
    exact hb1
  have d0 := free_of_blk hb2 1
  have d1 : w2.cell? ⟨b, 1, none⟩ = some (.slice ao l.length cap) := cell_of_blk hb2 1
  have hne2 : ∀ g, ao' = some g → g.block ≠ b := fun g hg e => by
    obtain ⟨_, cs, hk⟩ := row_kind HR2.out g hg
    rw [e, hb2] at hk
    cases hk
  have HB2 := Lib.hid hb2
  have HO : Hid (Only (BF B b w) w w2) := Lib.hid ((ho1.mono (fun q hq e => ⟨by rw [e]; exact hBb, .inl e⟩)).trans ho2 (fun q hq e => by
    obtain ⟨g, hg, rfl⟩ := e
    obtain ⟨h1, h2⟩ := row_kind hr g hg
    exact ⟨h1, .inr h2⟩))
  clear hb2 ho2 hown hgrow
  rw [← hlen]
  clear hlen
  generalize hL : (l ++ s).length = L at *
  go_wp2_with fail
  go_ret2
  refine ⟨⟨_, rfl⟩, ⟨hBb, _, ao', cap', by rw [hL]; simpa using blk_set HB2.out 1 (.slice ao' L cap'), .inr rfl, HR2.out.only (Only.setCell (S := fun q => q = b) w2 (p := ⟨b, 1, none⟩) rfl _) (fun g hg => hne2 g hg), hne2⟩, HO.out.trans (Only.setCell (S := fun q => q = b) w2 (p := ⟨b, 1, none⟩) rfl _) (fun q hq e => ⟨by rw [e]; exact hBb, .inl e⟩)⟩
end Go.Proofs.YtogccafnfpmgmaaDoor.toks
