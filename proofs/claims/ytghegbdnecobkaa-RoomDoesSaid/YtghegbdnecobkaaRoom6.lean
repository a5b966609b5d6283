/- The list that a question keeps: what sift answers, for any question that keeps its own blocks. -/
import Derived.Test.YtghegbdnecobkaaRoom3
import Derived.Defers
import Derived.Recover
import Derived.Laws.Pointers
namespace Go.Proofs.Ytghegbdnecobkaa.rooms
open Go.RowKit

theorem catch_idle (p q : Addr) (w : World) :
    CallsD Try.prog 36 #[.pointer (some p), .pointer (some q)] .returning w fun e u' w' => e = .returned (.tuple #[]) ∧ u' = .returning ∧ w' = w := by
  refine callsD_of_wpS Try.func36 rfl fun c₀ cs hu => ?_
  apply wpS_seq
  apply wpS_region
  simp [wpOpsS, go_sem, recoverD, hu, Try.ntmps36, Exit.thenS]
  refine wpS_cond (t := false) (by simp [Act.eval, Array.replicate]) ?_
  simp only [Bool.false_eq_true, if_false]
  refine wpS_of_wp (wp_skip ?_)
  cases c₀
  simp_all [bodyPostS, results, Try.results36]

theorem Row.at {E B : Nat} {ao : Option Addr} {cap : Nat} {xs : List Int} {w : World} (h : Row E B ao cap xs w) (i : Nat) (hi : i < xs.length) : ∃ g, ao = some ⟨g, 0, none⟩ ∧ w.cell? ⟨g, i, none⟩ = some (.int .u64 (xs.getD i 0)) := by
  have hr : w.ownsRow B E 1 (.slice ao xs.length cap) xs.length (xs.map (Value.int .u64)) := h
  rcases h.2 with ⟨h1, h2⟩ | ⟨g, cap', cur, hv, _, hg, _, _⟩
  · omega
  · simp only [Value.slice.injEq] at hv
    obtain ⟨rfl, _, rfl⟩ := hv
    refine ⟨g, rfl, ?_⟩
    rw [hr.cellAt i (by omega)]
    simp [List.getD, List.getElem?_eq_getElem hi]

/-- make([]uint64, 0, n). -/
theorem wp_make_none {P : Program} (w : World) {ops : Array Oper} {rest : List Oper} {o : Oper} {a : Act} {Q : Exit → Act → World → Prop}
    (hg : o.guard = none) (l c : Operand) (t : TypeId) (hop : o.op = Op.makeSlice t l c)
    (B E : Nat) (i : TypeInfo) (ht : P.underlying t = some (.slice E)) (hi : P.info? E = some i) (hz : i.zero = some (.int .u64 0)) (hsize : i.size = 1) (hby : i.bytes = 8)
    (kl kc : IntKind) (C : Int) (n : Nat) (hl : a.eval l = .int kl 0) (hc : a.eval c = .int kc C) (hC : C = (n : Int)) (hn : n ≤ 1048576) (hB : B ≤ w.heap.size)
    (hK : ∀ w', Row E B (some ⟨w.heap.size, 0, none⟩) n [] w' → Only (fun _ => False) w w' → wpList P ops Q rest (a.put o.dst (.slice (some ⟨w.heap.size, 0, none⟩) 0 n)) w') :
    wpList P ops Q (o :: rest) a w := by
  refine wpList_make_own w hg l c t hop B E i (.int .u64 0) 1 ht hi hz hsize kl kc C n hl hc hC (by rw [hby]; omega) (by unfold maxLen; omega) hB ?_
  intro w' hown hgrow
  exact hK w' hown ((Only.grown hgrow).mono (fun k _ e => by cases e))

/-- The blocks that a question keeps: some that stay, and its row's. -/
def Held (kb : Nat → Prop) (ak : Option Addr) (k : Nat) : Prop := kb k ∨ ∃ g, ak = some g ∧ k = g.block

/-- What a question asks for, and what it keeps: at the place k, its row at ak. -/
structure Asks (K : Nat) (first : Array Value) (kb : Nat → Prop) (kp : Int → Bool) (xs : List Int) (Inv : Nat → Option Addr → World → Prop) : Prop where
  call : ∀ (k : Nat) ak wr, k < xs.length → Inv k ak wr → Calls Try.prog K (first ++ #[.int .i64 k, .int .u64 (xs.getD k 0)]) wr fun e w' => e = .returned (.bool (kp (xs.getD k 0))) ∧ ∃ ak', Inv (k + 1) ak' w' ∧ Only (Held kb ak) wr w' ∧ NewRow wr.heap.size ak ak'
  stays : ∀ k ak w w' (S : Nat → Prop), Inv k ak w → Only S w w' → (∀ j, Held kb ak j → ¬ S j) → Inv k ak w'
  lt : ∀ k ak w, Inv k ak w → ∀ j, Held kb ak j → j < w.heap.size

/-- Where sift stands (entered in world w) behind k questions: the words ys are kept. -/
structure SiftAt (kb : Nat → Prop) (Inv : Nat → Option Addr → World → Prop) (ak0 : Option Addr) (w : World) (k : Nat) (ys : List Int) (aok : Option Addr) (capk : Nat) (ak : Option Addr) (wr : World) : Prop where
  kept : wr.heap[w.heap.size]? = some (.cells #[.slice aok ys.length capk] 35 (0, 0))
  ok : wr.heap[w.heap.size + 1]? = some (.cells #[.bool false] 4 (0, 0))
  row : Row 31 (w.heap.size + 2) aok capk ys wr
  inv : Inv k ak wr
  new : NewRow (w.heap.size + 2) ak0 ak
  apart : ∀ g, aok = some g → ¬ Held kb ak g.block
  away : ∀ j, Held kb ak j → j ≠ w.heap.size ∧ j ≠ w.heap.size + 1
  only : Only (Held kb ak0) w wr

theorem Only.cell {S : Nat → Prop} {w w' : World} (h : Only S w w') {p : Addr} (hp : p.block < w.heap.size) (hS : ¬ S p.block) : w'.cell? p = w.cell? p := by
  simp [World.cell?, h.block _ hp hS]
theorem Only.frozen {S : Nat → Prop} {w w' : World} (h : Only S w w') {p : Addr} (hp : p.block < w.heap.size) (hS : ¬ S p.block) : w'.frozen? p = w.frozen? p := by
  simp [World.frozen?, h.block _ hp hS]
theorem filter_next (kp : Int → Bool) (xs : List Int) (k : Nat) (h : k < xs.length) : (xs.take (k + 1)).filter kp = (xs.take k).filter kp ++ (if kp (xs.getD k 0) = true then [xs.getD k 0] else []) := by
  rw [List.take_succ_eq_append_getElem h, List.filter_append]
  congr 1
  simp [List.getD, List.getElem?_eq_getElem h, List.filter_cons]

section
variable {K : Nat} {first : Array Value} {kb : Nat → Prop} {kp : Int → Bool} {xs : List Int} {Inv : Nat → Option Addr → World → Prop} {ak0 : Option Addr} {w : World}

/-- The two cells of the answers, laid new. -/
abbrev laid2 (w : World) : World := (w.alloc (Obj.cells #[Value.slice none 0 0] 35)).alloc (Obj.cells #[Value.bool false] 4)

theorem SiftAt.size {k : Nat} {ys : List Int} {aok ak : Option Addr} {capk : Nat} {wr : World} (h : SiftAt kb Inv ak0 w k ys aok capk ak wr) : w.heap.size + 2 ≤ wr.heap.size := by
  have := lt_of_block h.ok
  omega
theorem Held.next {N : Nat} {kb : Nat → Prop} {ak ak' : Option Addr} (hn : NewRow N ak ak') {j : Nat} (h : Held kb ak' j) : Held kb ak j ∨ N ≤ j := by
  rcases h with h0 | ⟨g, hg, rfl⟩
  · exact .inl (.inl h0)
  · rcases hn g hg with h1 | h1
    · exact .inl (.inr ⟨g, h1, rfl⟩)
    · exact .inr h1
theorem SiftAt.start {w1 : World} (hA : Asks K first kb kp xs Inv) (hI : Inv 0 ak0 w) (hrow : Row 31 (w.heap.size + 2) (some ⟨(laid2 w).heap.size, 0, none⟩) xs.length [] w1) (ho : Only (fun _ => False) (laid2 w) w1) :
    SiftAt kb Inv ak0 w 0 [] (some ⟨w.heap.size + 1 + 1, 0, none⟩) xs.length ak0 (w1.setCell ⟨w.heap.size, 0, none⟩ (.slice (some ⟨w.heap.size + 1 + 1, 0, none⟩) 0 xs.length)) := by
  have hlt := hA.lt 0 ak0 w hI
  have hsz : (laid2 w).heap.size = w.heap.size + 1 + 1 := by simp [laid2]
  have o1 : Only (fun _ => False) w (laid2 w) := (Only.alloc _ w _).same (Only.alloc _ _ _)
  have o2 := o1.same ho
  have o3 : Only (· = w.heap.size) w1 (w1.setCell ⟨w.heap.size, 0, none⟩ (.slice (some ⟨w.heap.size + 1 + 1, 0, none⟩) 0 xs.length)) := Only.setCell (S := (· = w.heap.size)) w1 (p := ⟨w.heap.size, 0, none⟩) rfl _
  have b0 : w1.heap[w.heap.size]? = some (.cells #[.slice none 0 0] 35 (0, 0)) := by
    rw [ho.block _ (by omega) (fun e => e)]
    unfold laid2
    rw [Below.heap_alloc _ _ _ (by simp)]
    exact heap_alloc_new w _
  have b1 : w1.heap[w.heap.size + 1]? = some (.cells #[.bool false] 4 (0, 0)) := by
    rw [ho.block _ (by omega) (fun e => e)]
    have := heap_alloc_new (w.alloc (Obj.cells #[Value.slice none 0 0] 35)) (.cells #[.bool false] 4)
    simpa [laid2] using this
  rw [hsz] at hrow
  refine ⟨?_, ?_, ?_, ?_, NewRow.refl _ _, ?_, ?_, ?_⟩
  · exact blk_set b0 0 _
  · rw [o3.block _ (lt_of_block b1) (by omega)]
    exact b1
  · exact hrow.only o3 (fun g hg => by cases hg; simp; omega)
  · refine hA.stays 0 ak0 _ _ _ (hA.stays 0 ak0 _ _ _ hI o2 (fun _ _ e => e)) o3 (fun j hj e => ?_)
    have := hlt j hj
    omega
  · intro g hg hm
    cases hg
    have := hlt _ hm
    simp at this
    omega
  · intro j hj
    have := hlt j hj
    omega
  · exact (o2.no _).trans o3 (fun j hj e => by omega)
theorem SiftAt.asked {k : Nat} {ys : List Int} {aok ak ak' : Option Addr} {capk : Nat} {wr w2 : World} (h : SiftAt kb Inv ak0 w k ys aok capk ak wr) (hI : Inv (k + 1) ak' w2) (ho : Only (Held kb ak) wr w2) (hn : NewRow wr.heap.size ak ak') :
    SiftAt kb Inv ak0 w (k + 1) ys aok capk ak' w2 := by
  have hsz := h.size
  refine ⟨?_, ?_, ?_, hI, h.new.trans hn hsz, ?_, ?_, ?_⟩
  · rw [ho.block _ (by omega) (fun e => (h.away _ e).1 rfl)]
    exact h.kept
  · rw [ho.block _ (by omega) (fun e => (h.away _ e).2 rfl)]
    exact h.ok
  · exact h.row.only ho h.apart
  · intro g hg hm
    rcases Held.next hn hm with h1 | h1
    · exact h.apart g hg h1
    · have := (h.row.head g hg).2.2
      omega
  · intro j hm
    rcases Held.next hn hm with h1 | h1
    · exact h.away j h1
    · omega
  · refine h.only.trans ho (fun j hj hm => ?_)
    rcases Held.next h.new hm with h1 | h1
    · exact h1
    · omega
theorem SiftAt.grown {k : Nat} {ys : List Int} {x : Int} {aok aok' ak : Option Addr} {capk capk' : Nat} {wr w2 : World} (hA : Asks K first kb kp xs Inv) (h : SiftAt kb Inv ak0 w k ys aok capk ak wr)
    (hrow : Row 31 (w.heap.size + 2) aok' capk' (ys ++ [x]) w2) (ho : Only (RowAt aok) wr w2) (hn : NewRow wr.heap.size aok aok') :
    SiftAt kb Inv ak0 w k (ys ++ [x]) aok' capk' ak (w2.setCell ⟨w.heap.size, 0, none⟩ (.slice aok' (ys ++ [x]).length capk')) := by
  have hsz := h.size
  have o3 : Only (· = w.heap.size) w2 (w2.setCell ⟨w.heap.size, 0, none⟩ (.slice aok' (ys ++ [x]).length capk')) := Only.setCell (S := (· = w.heap.size)) w2 (p := ⟨w.heap.size, 0, none⟩) rfl _
  have far : ∀ j, RowAt aok j → w.heap.size + 2 ≤ j := by
    rintro j ⟨g, hg, rfl⟩
    exact (h.row.head g hg).2.1
  have b0 : w2.heap[w.heap.size]? = some (.cells #[.slice aok ys.length capk] 35 (0, 0)) := by
    rw [ho.block _ (by omega) (fun e => by have := far _ e; omega)]
    exact h.kept
  have b1 : w2.heap[w.heap.size + 1]? = some (.cells #[.bool false] 4 (0, 0)) := by
    rw [ho.block _ (by omega) (fun e => by have := far _ e; omega)]
    exact h.ok
  refine ⟨?_, ?_, ?_, ?_, h.new, ?_, h.away, ?_⟩
  · exact blk_set b0 0 _
  · rw [o3.block _ (lt_of_block b1) (by omega)]
    exact b1
  · exact hrow.only o3 (fun g hg e => by have := (hrow.head g hg).2.1; omega)
  · refine hA.stays k ak _ _ _ (hA.stays k ak _ _ _ h.inv ho ?_) o3 (fun j hj e => (h.away j hj).1 e)
    rintro j hj ⟨g, hg, rfl⟩
    exact h.apart g hg hj
  · intro g hg hm
    rcases hn g hg with h1 | h1
    · exact h.apart g h1 hm
    · have := hA.lt k ak wr h.inv _ hm
      omega
  · refine (h.only.trans ho (fun j hj e => ?_)).trans o3 (fun j hj e => by omega)
    have := far j e
    omega
/-- The answers stored. -/
abbrev answered (w wr : World) (v : Value) : World := (wr.setCell ⟨w.heap.size, 0, none⟩ v).setCell ⟨w.heap.size + 1, 0, none⟩ (.bool true)
theorem SiftAt.read {k : Nat} {ys : List Int} {aok ak : Option Addr} {capk : Nat} {wr : World} (h : SiftAt kb Inv ak0 w k ys aok capk ak wr) (v : Value) :
    (answered w wr v).cell? ⟨w.heap.size, 0, none⟩ = some v ∧ (answered w wr v).cell? ⟨w.heap.size + 1, 0, none⟩ = some (.bool true) := by
  have o0 : Only (· = w.heap.size) wr (wr.setCell ⟨w.heap.size, 0, none⟩ v) := Only.setCell (S := (· = w.heap.size)) wr (p := ⟨w.heap.size, 0, none⟩) rfl _
  have o1 : Only (· = w.heap.size + 1) (wr.setCell ⟨w.heap.size, 0, none⟩ v) (answered w wr v) := Only.setCell (S := (· = w.heap.size + 1)) _ (p := ⟨w.heap.size + 1, 0, none⟩) rfl _
  have b0 := blk_set h.kept 0 v
  have b1 : (wr.setCell ⟨w.heap.size, 0, none⟩ v).heap[w.heap.size + 1]? = some (.cells #[.bool false] 4 (0, 0)) := by
    rw [o0.block _ (lt_of_block h.ok) (by omega)]
    exact h.ok
  have b2 := blk_set b1 0 (.bool true)
  constructor
  · rw [o1.cell (p := ⟨w.heap.size, 0, none⟩) (lt_of_block b0) (by show ¬ w.heap.size = w.heap.size + 1; omega), cell_of_blk b0]
    rfl
  · have := cell_of_blk b2 0
    simpa [answered] using this
theorem SiftAt.done {k : Nat} {ys : List Int} {aok ak : Option Addr} {capk : Nat} {wr : World} (hA : Asks K first kb kp xs Inv) (h : SiftAt kb Inv ak0 w k ys aok capk ak wr) (v : Value) :
    Row 31 (w.heap.size + 2) aok capk ys (answered w wr v) ∧ Inv k ak (answered w wr v) ∧ NewRow (w.heap.size + 2) ak0 ak ∧ (∀ g, aok = some g → ¬ Held kb ak g.block) ∧ Only (Held kb ak0) w (answered w wr v) := by
  have o : Only (fun j => j = w.heap.size ∨ j = w.heap.size + 1) wr (answered w wr v) := (Only.setCell wr (p := ⟨w.heap.size, 0, none⟩) (.inl rfl) _).same (Only.setCell _ (p := ⟨w.heap.size + 1, 0, none⟩) (.inr rfl) _)
  refine ⟨h.row.only o (fun g hg e => by have := (h.row.head g hg).2.1; omega), hA.stays k ak _ _ _ h.inv o (fun j hj e => ?_), h.new, h.apart, h.only.trans o (fun j hj e => by omega)⟩
  have := h.away j hj
  omega
end

theorem laid2_cells {w w1 : World} (h : Only (fun _ => False) (laid2 w) w1) : w1.cell? ⟨w.heap.size, 0, none⟩ = some (.slice none 0 0) ∧ w1.frozen? ⟨w.heap.size, 0, none⟩ = false := by
  have h0 := h.cell (p := ⟨w.heap.size, 0, none⟩) (by simp; omega) (fun e => e)
  have f0 := h.frozen (p := ⟨w.heap.size, 0, none⟩) (by simp; omega) (fun e => e)
  rw [h0, f0]
  unfold laid2
  simp
theorem grown_cell {kb : Nat → Prop} {Inv : Nat → Option Addr → World → Prop} {ak0 ak aok : Option Addr} {w wr w2 : World} {k capk : Nat} {ys : List Int} (h : SiftAt kb Inv ak0 w k ys aok capk ak wr) (ho : Only (RowAt aok) wr w2) :
    w2.cell? ⟨w.heap.size, 0, none⟩ = some (.slice aok ys.length capk) ∧ w2.frozen? ⟨w.heap.size, 0, none⟩ = false := by
  have b0 : w2.heap[w.heap.size]? = some (.cells #[.slice aok ys.length capk] 35 (0, 0)) := by
    rw [ho.block _ (lt_of_block h.kept) (by rintro ⟨g, hg, e⟩; have := (h.row.head g hg).2.1; omega)]
    exact h.kept
  exact ⟨cell_of_blk b0 0, free_of_blk b0 0⟩

theorem sift_any (K : Nat) (first : Array Value) (kb : Nat → Prop) (kp : Int → Bool) (Inv : Nat → Option Addr → World → Prop) (B : Nat) (ao : Option Addr) (cap : Nat) (xs : List Int) (ak0 : Option Addr) (w : World)
    (hA : Asks K first kb kp xs Inv) (hI : Inv 0 ak0 w) (hrow : Hid (Row 31 B ao cap xs w)) (hd : Hid (∀ g, ao = some g → ¬ Held kb ak0 g.block)) (hn : xs.length ≤ 1048576)
    (hE : ∀ args w, (callFunc K args).run Try.prog w = .ok (.enter K args) w) :
    Calls Try.prog 33 #[.slice ao xs.length cap, .func (.func K) first #[]] w fun e w' => ∃ aok capk ak', e = .returned (.tuple #[.slice aok (xs.filter kp).length capk, .bool true]) ∧
      Row 31 (w.heap.size + 2) aok capk (xs.filter kp) w' ∧ Inv xs.length ak' w' ∧ NewRow (w.heap.size + 2) ak0 ak' ∧ (∀ g, aok = some g → ¬ Held kb ak' g.block) ∧ Only (Held kb ak0) w w' := by
  obtain ⟨i0, hi, hz0, hz1, hz2⟩ := info_parts info64
  have hmf : ∀ (fn : Fn) (first cap : Array Value) (w : World), (Instr.makeFunc fn first cap).run Try.prog w = .ok (.func fn first cap) w := fun _ _ _ _ => rfl
  have HA := Lib.hid hA
  have HI := Lib.hid hI
  clear hA hI
  go_enter_defers Try.func33, Try.ntmps33
  go_wp2_with (at_make; refine wp_make_none _ rfl _ _ 35 rfl (w.heap.size + 2) 31 i0 Try.underlying35 hi hz0 hz1 hz2 .i64 .i64 xs.length xs.length rfl rfl rfl hn (by simp) ?_; intro w1 hrow1 ho1; have hl := laid2_cells ho1; have hs1 := Lib.hid (SiftAt.start HA.out HI.out hrow1 ho1); clear hrow1 ho1; obtain ⟨hl0, hl1⟩ := hl)
  go_loopw [14] (fun i wr => ∃ k : Nat, i = .int .i64 k ∧ k ≤ xs.length ∧ Hid (∃ aok capk ak, SiftAt kb Inv ak0 w k ((xs.take k).filter kp) aok capk ak wr)) (fun i _ => xs.length - (intOf i).toNat)
  case atStart => exact ⟨0, rfl, by omega, ⟨_, _, _, hs1.out⟩⟩
  case round =>
    obtain ⟨k, rfl, hk, hR⟩ := hrel
    obtain ⟨aok, capk, ak, hS⟩ := hR.out
    clear hR hs1 hl0 hl1
    have HS := Lib.hid hS
    clear hS
    by_cases hkn : k < xs.length
    · obtain ⟨g, rfl, hcell⟩ := hrow.out.at k hkn
      have hcw : wr.cell? ⟨g, k, none⟩ = some (.int .u64 (xs.getD k 0)) := by
        rw [HS.out.only.cell (p := ⟨g, k, none⟩) (hrow.out.head _ rfl).2.2 (hd.out ⟨g, 0, none⟩ rfl)]
        exact hcell
      clear hcell
      have hC := HA.out.call k ak wr hkn HS.out.inv
      have hnx := filter_next kp xs k hkn
      have hle : ((xs.take k).filter kp).length ≤ 1048576 := Nat.le_trans (List.length_filter_le _ _) (by rw [List.length_take]; omega)
      generalize xs.getD k 0 = x at hcw hC hnx
      generalize (xs.take k).filter kp = ys at HS hnx hle
      have HC := Lib.hid hC
      have HX := Lib.hid hnx
      clear hC hnx
      go_wp2_with fail
      refine HC.out.mono ?_
      rintro e w2 ⟨rfl, ak', hI2, ho2, hn2⟩
      have HS2 := Lib.hid (HS.out.asked hI2 ho2 hn2)
      clear hI2 ho2 hn2 HS HC
      have hc0 := cell_of_blk HS2.out.kept 0
      have hf0 := free_of_blk HS2.out.kept 0
      generalize kp x = t at HX
      cases t
      · go_wp2_with fail
        go_roundw
        case rel => exact ⟨k + 1, rfl, by omega, ⟨aok, capk, ak', by rw [HX.out]; simpa using HS2.out⟩⟩
        case measure => simp [intOf]; omega
      · go_wp2_with (at_builtin; refine wp_append_word rfl (.tmp 23) (.tmp 25) 35 rfl (w.heap.size + 2) 31 i0 Try.underlying35 hi hz0 hz1 hz2 w2 aok capk ys x rfl HS2.out.row rfl hle HS2.out.size ?_; intro aok' capk' w3 hrow3 ho3 hn3; have HG := Lib.hid (HS2.out.grown HA.out hrow3 ho3 hn3); have hz := grown_cell HS2.out ho3; obtain ⟨hz0, hz1⟩ := hz; clear hrow3 ho3 hn3 hc0 hf0)
        go_roundw
        case rel => exact ⟨k + 1, rfl, by omega, ⟨aok', capk', ak', by have h := HG.out; rw [HX.out]; simpa using h⟩⟩
        case measure => simp [intOf]; omega
    · obtain rfl : k = xs.length := by omega
      rw [List.take_length] at HS
      have hc0 := cell_of_blk HS.out.kept 0
      have hf0 := free_of_blk HS.out.kept 0
      have hc1 := cell_of_blk HS.out.ok 0
      have hf1 := free_of_blk HS.out.ok 0
      go_wp2_with fail
      have HD := Lib.hid (HS.out.done HA.out (.slice aok (xs.filter kp).length capk))
      obtain ⟨hr0, hr1⟩ := HS.out.read (.slice aok (xs.filter kp).length capk)
      change bodyPostD Try.prog Try.f33 _ Exit.ret _ (answered w wr (.slice aok (xs.filter kp).length capk))
      clear hc0 hc1 hf0 hf1
      generalize answered w wr (.slice aok (xs.filter kp).length capk) = w9 at *
      simp only [bodyPostD, settle]
      refine leaves_cons (f := 36) (args := #[.pointer (some ⟨w.heap.size, 0, none⟩), .pointer (some ⟨w.heap.size + 1, 0, none⟩)]) (by simp) (by simp [go_sem]) ?_
      refine (catch_idle _ _ _).mono fun e u' w' ⟨e1, e2, e3⟩ => ?_
      subst e1 e2 e3
      obtain ⟨d1, d2, d3, d4, d5⟩ := HD.out
      refine ⟨.tuple #[.slice aok (xs.filter kp).length capk, .bool true], ?_, aok, capk, ak, rfl, d1, d2, d3, d4, d5⟩
      simp [results, go_sem, asAddr, loadVar, hr0, hr1]
end Go.Proofs.Ytghegbdnecobkaa.rooms
