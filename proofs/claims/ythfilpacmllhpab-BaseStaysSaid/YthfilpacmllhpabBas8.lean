/- Clauses by generations: a row of code copied. -/
import Derived.Test.YthfilpacmllhpabBas7
namespace Go.Proofs.Ythfilpacmllhpab.bases
set_option maxRecDepth 100000
open Go.RowKit Go.Proofs.Ythfilpacmllhpab.own Go.Lib Go.Maps Go.WideMaps Go.Proofs.Ythfilpacmllhpab.idx Go.Proofs.Ythfilpacmllhpab.terms
/-- An instruction of code. -/
structure In where
  o : Int
  s : ByteArray
  n : Int
  v : Int
  a : Int
def encI (i : In) : List Value := [.int .i64 i.o, .string i.s, .int .i64 i.n, .int .i64 i.v, .int .i64 i.a]
theorem liesI : Lies encI 5 := ⟨fun _ => rfl, by
  intro x u hu
  simp [encI] at hu
  rcases hu with rfl | rfl | rfl | rfl | rfl <;> rfl, by omega⟩
abbrev RowI (N : Nat) (ao : Option Addr) (cap : Nat) (xs : List In) (w : World) : Prop := RowOf encI 5 61 N ao cap xs w
theorem infoI : (Try.prog.info? 61).map (fun i => (i.zero, i.size, i.bytes)) = some (some (.agg #[.int .i64 0, .string ⟨#[]⟩, .int .i64 0, .int .i64 0, .int .i64 0]), 5, 48) := by kernel_rfl
set_option maxHeartbeats 4000000 in
theorem clone_any (co : Option Addr) (cc : Nat) (is : List In) (w : World) (hc : co = none → cc = 0) (h : SrcOf encI w co is) (hb : ∀ ad, co = some ad → ad.block < w.heap.size) (hl : is.length ≤ 100000) :
    Calls Try.prog 38 #[.slice co is.length cc] w fun e w' => ∃ a c, e = .returned (.slice a is.length c) ∧ RowI w.heap.size a c is w' ∧ Only (fun _ => False) w w' := by
  cases hco : co with
  | none =>
    rw [hco] at h
    have hy := h.1 rfl
    subst hy
    rw [hc hco]
    simp only [List.length_nil]
    have hnil : (binOp .eql 35 (.slice none 0 0) (.slice none 0 0)).run Try.prog w = .ok (.bool true) w := by first | rfl | simp [binOp]
    go_enter Try.func38, Try.ntmps38
    go_wp2_with fail
    go_ret
    exact ⟨none, 0, rfl, ⟨rfl, .inl ⟨rfl, rfl⟩⟩, Only.refl _ _⟩
  | some ad =>
    rw [hco] at h hb
    obtain ⟨E, hE⟩ : ∃ E, E = w.alloc (.cells #[] 61) := ⟨_, rfl⟩
    have HO : Hid (Only (fun _ => False) w E) := Lib.hid (by rw [hE]; exact Only.alloc _ _ _)
    have HR : Hid (RowI w.heap.size (some ⟨w.heap.size, 0, none⟩) 0 [] E) := Lib.hid ⟨by simp, .inr ⟨w.heap.size, 0, #[], rfl, Nat.le_refl _, by rw [hE]; exact heap_alloc_new _ _, Nat.le_refl _, by unfold maxLen; omega, by simp, by simp⟩⟩
    have HS : Hid (SrcOf encI E (some ad) is) := Lib.hid (h.only HO.out (fun x e => ⟨hb x e, fun e => e⟩))
    have HZ : Hid (w.heap.size ≤ E.heap.size) := Lib.hid HO.out.size
    obtain ⟨i0, hi0, hz0, hz1, hz2⟩ := info_parts infoI
    have HL := Lib.hid hl
    clear h hb hl hco hc
    generalize hm : is.length = m at *
    have hnil : (binOp .eql 35 (.slice (some ad) m cc) (.slice none 0 0)).run Try.prog w = .ok (.bool false) w := by first | rfl | simp [binOp]
    have HM := Lib.hid hm
    clear hm
    go_enter Try.func38, Try.ntmps38
    go_upto_region 3 with fail
    go_wp2_with (first
      | (at_builtin; refine wp_append_two liesI rfl (.tmp 5) (.tmp 6) 35 35 rfl w.heap.size 61 61 i0 _ 48 Try.underlying35 Try.underlying35 hi0 hz0 hz1 hz2 rfl (by omega) _ (some ⟨w.heap.size, 0, none⟩) 0 [] rfl (by rw [← hE]; exact HR.out) (some ad) cc is (by rw [HM.out]; rfl) (by rw [← hE]; exact HS.out) (by have := HM.out; have := HL.out; simp; omega) (by rw [← hE]; exact HZ.out) ?_
         intro ao2 cap2 w2 hrow2 ho2 hnew2
         rw [← hE] at ho2
         have HR2 := Lib.hid hrow2
         have HO2 := Lib.hid ho2
         clear hrow2 ho2 hnew2)
      | fail)
    all_goals
      go_ret
      refine ⟨ao2, cap2, by simp [HM.out], HR2.out, Only.trans HO.out HO2.out (fun k hk e => ?_)⟩
      obtain ⟨g, hg, e'⟩ := e
      cases hg
      exact absurd hk (by rw [e']; exact Nat.lt_irrefl _)
end Go.Proofs.Ythfilpacmllhpab.bases
