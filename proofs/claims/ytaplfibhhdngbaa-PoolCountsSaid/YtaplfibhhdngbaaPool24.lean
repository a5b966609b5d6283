/- Where segments begin, told. -/
import Derived.Test.YtaplfibhhdngbaaPool23
namespace Go.Proofs.Ytaplfibhhdngbaa.pools
open Go.RowKit Go.Proofs.Ytaplfibhhdngbaa.own Go.Proofs.Ytaplfibhhdngbaa.trees Go.Proofs.Ytaplfibhhdngbaa.rows
variable {Sm S : Nat → Prop} {B b k sz : Nat} {so : Option Addr} {scap : Nat} {ao : Option Addr} {cap : Nat} {T : List Int} {f : Nat → Nat} {lim : Nat} {F : List Bool} {St : List Nat} {w w' : World} {o : Nat}
/-- make([]T, 0, n) in a region that draws, on the goal as the walk leaves it. -/
theorem upon_make_own {P : Program} {o : Oper} {a : Act} {w : World} {K : Act → World → Prop} {Q : Exit → Act → World → Prop} (t : TypeId)
    (base : Nat) (e : TypeId) (i : TypeInfo) (z : Value) (size : Nat) (h1 : P.underlying t = some (.slice e)) (h2 : P.info? e = some i) (h3 : i.zero = some z) (h4 : i.size = size) (by_ : Nat) (hby : i.bytes = by_)
    (kl kc : IntKind) (n : Nat) (b2 : by_ * n ≤ 281474976710656) (b3 : n ≤ maxLen) (b4 : base ≤ w.heap.size) (H : Nat) (hH : w.heap.size = H)
    (hK : ∀ w', w'.ownsRow base e size (.slice (some ⟨H, 0, none⟩) 0 n) 0 [] → w.grownBy w' none → K (a.put o.dst (.slice (some ⟨H, 0, none⟩) 0 n)) w') :
    Oper.upon P o a K Q ((Sem.run P (Instr.makeSlice t (Value.int kl 0) (Value.int kc (n : Int))) w).andThen fun a w' => Result.ok (Next.value a) w') := by
  obtain ⟨w', hrun, r1, r2⟩ := run_make_own (P := P) w base t e i z size h1 h2 h3 h4 kl kc n (by rw [hby]; exact b2) b3 b4
  subst hH
  rw [hrun]
  simp [Result.andThen, Oper.upon]
  exact hK _ r1 r2
theorem cells_kept {cs : List Value} {g : Nat} {w w2 : World} (h : ∀ j u, cs[j]? = some u → w.cell? ((⟨g, 0, none⟩ : Addr).add j) = some u) (ho : Only (fun _ => False) w w2) (hg : g < w.heap.size) : ∀ j u, cs[j]? = some u → w2.cell? ((⟨g, 0, none⟩ : Addr).add j) = some u := by
  intro j u hu
  rw [ho.cell (by unfold Addr.add; split <;> exact hg) (fun e => e)]
  exact h j u hu
set_option maxRecDepth 100000 in
set_option maxHeartbeats 4000000 in
theorem starts_any (h : PoolAt Sm S B b k sz so scap ao cap T f lim F St w) :
    Calls Try.prog 13 #[.pointer (some ⟨b, 0, none⟩)] w fun e w' => ∃ ro rcap, e = .returned (.slice ro St.length rcap) ∧ RowOf enc64 1 3 w.heap.size ro rcap St w' ∧ Only (fun _ => False) w w' := by
  obtain ⟨i0, hi, hz0, hz1, hz2⟩ := info_parts info64
  have HC := Lib.hid (closed_no h)
  have c2 := h.c2
  have hB := h.own b h.inS.1
  have hone := h.one
  have hsg := h.segs
  obtain ⟨g0, hg0, _⟩ := h.start 0 0 h.first
  subst hg0
  have hg0l : g0 < w.heap.size := (h.starts.head _ rfl).2.2
  have HCL := Lib.hid (World.ownsRow.cells (g := g0) h.starts rfl)
  have hfl : (St.flatMap enc64).length = St.length := by rw [flat_len lies64]; omega
  have hone1 : ∀ u ∈ St.flatMap enc64, u.oneCell' = true := by
    intro u hu
    obtain ⟨x, _, hx⟩ := List.mem_flatMap.1 hu
    exact lies64.one x u hx
  have HFL := Lib.hid hfl
  have HO1 := Lib.hid hone1
  have HONE := Lib.hid hone
  have HSG := Lib.hid hsg
  have c2d : w.drew.cell? ⟨b, 2, none⟩ = some (.slice (some ⟨g0, 0, none⟩) St.length scap) := ((Only.drew (fun _ => False) w).cell (p := ⟨b, 2, none⟩) hB.2 (fun e => e)).trans c2
  generalize hn : St.length = n at *
  have HN := Lib.hid hn
  clear h hn hfl hone1 hone
  go_enter Try.func13, Try.ntmps13
  go_wp2_with fail
  refine HC.out.mono ?_
  rintro e w1 ⟨rfl, rfl⟩
  go_wp2_with fail
  go_region_held3 (fun w' => w'.cell? ⟨b, 2, none⟩ = some (.slice (some ⟨g0, 0, none⟩) n scap)) (go_keep) (first
    | (refine upon_make_own 38 w.heap.size 3 i0 _ 1 Try.underlying38 hi hz0 hz1 8 hz2 .i64 .i64 n (by omega) (by unfold maxLen; omega) (by simp) w.heap.size (by simp) ?_; intro w2 hown2 hg2; have c2e : w2.cell? ⟨b, 2, none⟩ = some (.slice (some ⟨g0, 0, none⟩) n scap) := ((Only.grown hg2).cell (p := ⟨b, 2, none⟩) hB.2 (fun e => by cases e)).trans c2d; have hs2 := hg2.size)
    | (refine step_append_lies _ (by rfl) _ _ _ (by rfl) w.heap.size 3 i0 _ 1 8 Try.underlying38 hi hz0 hz1 hz2 rfl (by omega) (.slice (some ⟨w.heap.size, 0, none⟩) 0 n) 0 [] (by rfl) hown2 ⟨g0, 0, none⟩ n scap (St.flatMap enc64) (by rfl) (by rw [HFL.out]; omega)
        (cells_kept HCL.out ((Only.drew (fun _ => False) w).same ((Only.grown hg2).mono (fun _ _ e => by cases e))) hg0l) HO1.out HONE.out (by unfold maxLen; omega) (by omega) hs2 w2.heap.size rfl ?_; intro gg cap' w5 hown5 hg5 hat5 hlt5
       have hs3 : w.heap.size ≤ w2.heap.size := hs2
       have c2f : w5.cell? ⟨b, 2, none⟩ = some (.slice (some ⟨g0, 0, none⟩) n scap) := ((Only.grown hg5).cell (p := ⟨b, 2, none⟩) (Nat.lt_of_lt_of_le hB.2 hs3) (fun e => by simp [Value.ownBlock] at e; omega)).trans c2e))
  have HF : Hid (RowOf enc64 1 3 w.heap.size (some ⟨gg, 0, none⟩) cap' St w5 ∧ Only (fun _ => False) w w5) := Lib.hid ⟨by
    unfold RowOf
    rw [HN.out]
    simpa using hown5, ((Only.drew (fun _ => False) w).same ((Only.grown hg2).mono (fun _ _ e => by cases e))).trans (Only.grown hg5) (fun j hj e => by simp [Value.ownBlock] at e; omega)⟩
  clear hown5 hg5 hat5 hlt5 c2f hown2 hg2 c2e hs2
  go_wp2_with fail
  go_ret
  exact ⟨_, _, rfl, HF.out⟩
end Go.Proofs.Ytaplfibhhdngbaa.pools
