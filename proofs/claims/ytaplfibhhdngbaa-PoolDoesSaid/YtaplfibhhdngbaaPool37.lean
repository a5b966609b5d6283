/- The question of the law's sweep: which cells live; it notes what it was asked, and what follows: 4 texts in one. -/
import Derived.Test.YtaplfibhhdngbaaPool33
import Derived.Defers
import Derived.Recover
import Derived.Laws.Pointers
import Derived.Deep.Onto
/- The question of the law's sweep: which cells live; it notes what it was asked. -/
namespace Go.Proofs.Ytaplfibhhdngbaa.pools
section
open Go.RowKit Go.Proofs.Ytaplfibhhdngbaa.own Go.Proofs.Ytaplfibhhdngbaa.trees Go.Proofs.Ytaplfibhhdngbaa.rows Go.Proofs.Ytaplfibhhdngbaa.frames
/-- The sweeper: its number, and what it was asked. -/
structure SweeperAt (B sb n : Nat) (asked : List Nat) (ak : Option Addr) (cap : Nat) (w : World) : Prop where
  blk : w.heap[sb]? = some (.cells #[.int .i64 n, .slice ak asked.length cap] 71 (0, 0))
  row : RowOf enc64 1 3 B ak cap asked w
  apart : ∀ g, ak = some g → g.block ≠ sb
/-- The blocks that the sweeper keeps. -/
def Mine (sb : Nat) (ak : Option Addr) (j : Nat) : Prop := j = sb ∨ RowAt ak j
variable {B sb n : Nat} {asked : List Nat} {ak : Option Addr} {cap : Nat} {w w' : World}
theorem SweeperAt.lt (h : SweeperAt B sb n asked ak cap w) : ∀ j, Mine sb ak j → j < w.heap.size := by
  rintro j (rfl | ⟨g, hg, rfl⟩)
  · exact lt_of_block h.blk
  · exact (h.row.head g hg).2.2
theorem SweeperAt.only {Q : Nat → Prop} (h : SweeperAt B sb n asked ak cap w) (ho : Only Q w w') (hq : ∀ j, Mine sb ak j → ¬ Q j) : SweeperAt B sb n asked ak cap w' :=
  ⟨by rw [ho.block sb (lt_of_block h.blk) (hq sb (.inl rfl))]; exact h.blk, h.row.only ho (fun g hg => hq _ (.inr ⟨g, hg, rfl⟩)), h.apart⟩
theorem enters_live : ∀ args w, (callFunc 51 args).run Try.prog w = .ok (.enter 51 args) w := by
  intro args w
  rfl
set_option maxRecDepth 100000 in
set_option maxHeartbeats 4000000 in
theorem live_any (k : Nat) (h : SweeperAt B sb n asked ak cap w) (hB : B ≤ w.heap.size) (hn1 : 1 ≤ n) (hn2 : n ≤ 100) (hk : k ≤ 1048576) (hl : asked.length ≤ 1048576) :
    Calls Try.prog 51 #[.pointer (some ⟨sb, 0, none⟩), .int .i64 k] w fun e w' => e = .returned (.bool (decide (k % n ≠ 0))) ∧ ∃ ak' cap', SweeperAt B sb n (asked ++ [k]) ak' cap' w' ∧ Only (Mine sb ak) w w' ∧ NewRow w.heap.size ak ak' := by
  obtain ⟨i0, hi, hz0, hz1, hz2⟩ := info_parts info64
  have c0 := cell_of_blk h.blk 0
  have c1 := cell_of_blk h.blk 1
  have f1 := free_of_blk h.blk 1
  have H := Lib.hid h
  have hap := h.apart
  have hsl := lt_of_block h.blk
  obtain ⟨r, hr⟩ : ∃ r, k % n = r := ⟨_, rfl⟩
  have hr1 : Int.tmod (k : Int) (n : Int) = (r : Int) := by rw [← hr]; rfl
  have hr2 : r < n := by rw [← hr]; exact Nat.mod_lt _ (by omega)
  have hn0 : ((n : Int) == 0) = false := by simp; omega
  rw [hr]
  have HR := Lib.hid hr
  clear h hr
  go_enter Try.func51, Try.ntmps51
  go_wp2_with (first
    | (at_builtin; refine wp_append_one lies64 rfl (.tmp 9) (.tmp 11) 38 rfl B 3 i0 _ 8 Try.underlying38 hi hz0 hz1 hz2 rfl (by omega) w ak cap asked k [.int .i64 k] rfl rfl H.out.row rfl (by omega) hB ?_; intro ak' cap' w2 hrow2 ho2 hnew2
       have hb2 : w2.heap[sb]? = some (.cells #[.int .i64 n, .slice ak asked.length cap] 71 (0, 0)) := by
         rw [ho2.block sb hsl (fun ⟨g, hg, e⟩ => hap g hg e.symm)]
         exact H.out.blk
       have HB2 := Lib.hid hb2
       have HR2 := Lib.hid hrow2
       have HO2 := Lib.hid ho2
       have HN2 := Lib.hid hnew2
       have d0 := cell_of_blk hb2 0
       have d1 := cell_of_blk hb2 1
       have e1 := free_of_blk hb2 1
       clear hb2 c0 c1 f1 hrow2 ho2 hnew2)
    | fail)
  go_ret
  have hap2 : ∀ g, ak' = some g → g.block ≠ sb := by
    intro g hg
    rcases HN2.out g hg with h1 | h1
    · exact hap g h1
    · omega
  have o3 : Only (· = sb) w2 (w2.setCell ⟨sb, 1, none⟩ (.slice ak' (asked ++ [k]).length cap')) := Only.setCell (S := (· = sb)) w2 (p := ⟨sb, 1, none⟩) rfl _
  have hl2 : (asked ++ [k]).length = asked.length + 1 := by simp
  rw [hl2] at o3
  refine ⟨?_, ak', cap', ⟨?_, HR2.out.only o3 hap2, hap2⟩, ?_, HN2.out⟩
  · congr 2
    by_cases h0 : r = 0
    · simp [h0]
    · simp [h0]
  · rw [hl2]
    exact blk_set HB2.out 1 _
  · exact (HO2.out.mono (fun j _ hj => .inr hj)).same (o3.mono (fun j _ hj => .inl hj))
end
end Go.Proofs.Ytaplfibhhdngbaa.pools
/- Which taken cells are dead, asked one by one. -/
namespace Go.Proofs.Ytaplfibhhdngbaa.pools
section
open Go.RowKit Go.Proofs.Ytaplfibhhdngbaa.own Go.Proofs.Ytaplfibhhdngbaa.trees Go.Proofs.Ytaplfibhhdngbaa.rows Go.Proofs.Ytaplfibhhdngbaa.frames
theorem catch_idle (p : Addr) (w : World) :
    CallsD Try.prog 53 #[.pointer (some p)] .returning w fun e u' w' => e = .returned (.tuple #[]) ∧ u' = .returning ∧ w' = w := by
  refine callsD_of_wpS Try.func53 rfl fun c₀ cs hu => ?_
  apply wpS_seq
  apply wpS_region
  simp [wpOpsS, go_sem, recoverD, hu, Try.ntmps53, Exit.thenS]
  refine wpS_cond (t := false) (by simp [Act.eval, Array.replicate]) ?_
  simp only [Bool.false_eq_true, if_false]
  refine wpS_of_wp (wp_skip ?_)
  cases c₀
  simp_all [bodyPostS, results, Try.results53]
/-- The cells below k that are asked about: those that are taken. -/
def askL (F : List Bool) (k : Nat) : List Nat := (List.range k).filter (fun j => !F.getD j false)
/-- Those of them that are dead. -/
def deadL (F : List Bool) (n k : Nat) : List Nat := (List.range k).filter (fun j => !F.getD j false && decide (j % n = 0))
theorem askL_free {F : List Bool} {k m : Nat} (hkm : k ≤ m) (h : ∀ j, k ≤ j → j < m → F.getD j false = true) : askL F m = askL F k := by
  obtain ⟨d, rfl⟩ := Nat.le.dest hkm
  induction d with
  | zero => rfl
  | succ d ih =>
    have hj := h (k + d) (by omega) (by omega)
    unfold askL at ih ⊢
    rw [show k + (d + 1) = (k + d) + 1 by omega, List.range_succ, List.filter_append, ih (by omega) (fun j h1 h2 => h j h1 (by omega))]
    simp only [List.filter_cons, hj, Bool.not_true, Bool.false_eq_true, if_false, List.filter_nil, List.append_nil]
theorem deadL_free {F : List Bool} {n k m : Nat} (hkm : k ≤ m) (h : ∀ j, k ≤ j → j < m → F.getD j false = true) : deadL F n m = deadL F n k := by
  obtain ⟨d, rfl⟩ := Nat.le.dest hkm
  induction d with
  | zero => rfl
  | succ d ih =>
    have hj := h (k + d) (by omega) (by omega)
    unfold deadL at ih ⊢
    rw [show k + (d + 1) = (k + d) + 1 by omega, List.range_succ, List.filter_append, ih (by omega) (fun j h1 h2 => h j h1 (by omega))]
    simp only [List.filter_cons, hj, Bool.not_true, Bool.false_and, Bool.false_eq_true, if_false, List.filter_nil, List.append_nil]
theorem askL_taken {F : List Bool} {k : Nat} (h : F.getD k false = false) : askL F (k + 1) = askL F k ++ [k] := by
  unfold askL
  rw [List.range_succ, List.filter_append]
  simp only [List.filter_cons, h, Bool.not_false, if_true, List.filter_nil]
theorem deadL_dead {F : List Bool} {n k : Nat} (h : F.getD k false = false) (hd : k % n = 0) : deadL F n (k + 1) = deadL F n k ++ [k] := by
  unfold deadL
  rw [List.range_succ, List.filter_append]
  simp only [List.filter_cons, h, hd, Bool.not_false, decide_true, Bool.and_self, if_true, List.filter_nil]
theorem deadL_live {F : List Bool} {n k : Nat} (hd : k % n ≠ 0) : deadL F n (k + 1) = deadL F n k := by
  unfold deadL
  rw [List.range_succ, List.filter_append]
  simp [hd]
theorem askL_len (F : List Bool) (k : Nat) : (askL F k).length ≤ k := by
  unfold askL
  exact Nat.le_trans (List.length_filter_le _ _) (by simp)
theorem deadL_len (F : List Bool) (n k : Nat) : (deadL F n k).length ≤ k := by
  unfold deadL
  exact Nat.le_trans (List.length_filter_le _ _) (by simp)
/-- Behind m cells (entered in world w). -/
structure DeadAt (sb n : Nat) (F : List Bool) (w : World) (m : Nat) (ak : Option Addr) (cap : Nat) (co : Option Addr) (ccap : Nat) (wr : World) : Prop where
  cell : wr.heap[w.heap.size]? = some (.cells #[.slice co (deadL F n m).length ccap] 38 (0, 0))
  row : RowOf enc64 1 3 (w.heap.size + 1) co ccap (deadL F n m) wr
  sw : SweeperAt 0 sb n (askL F m) ak cap wr
  new : ∀ g, ak = some g → w.heap.size + 1 ≤ g.block
  apart : ∀ g, co = some g → ¬ Mine sb ak g.block
  only : Only (· = sb) w wr
variable {sb n : Nat} {F : List Bool} {w wr w2 : World} {m : Nat} {ak ak' co co' : Option Addr} {cap cap' ccap ccap' : Nat}
theorem DeadAt.sbl (h : DeadAt sb n F w m ak cap co ccap wr) (hsb : sb < w.heap.size) : sb ≠ w.heap.size ∧ w.heap.size < wr.heap.size := ⟨by omega, lt_of_block h.cell⟩
theorem DeadAt.start (hs : SweeperAt 0 sb n [] none 0 w) (e : wr = w.alloc (.cells #[.slice none 0 0] 38)) : DeadAt sb n F w 0 none 0 none 0 wr := by
  have ho : Only (fun _ => False) w wr := by rw [e]; exact Only.alloc _ _ _
  refine ⟨?_, RowOf.nil _ _ _ _ _, hs.only ho (fun _ _ e => e), (fun g hg => by cases hg), (fun g hg => by cases hg), ho.no _⟩
  rw [e]
  exact heap_alloc_new w _
theorem DeadAt.still (h : DeadAt sb n F w m ak cap co ccap wr) (ho : Only (fun _ => False) wr w2) : DeadAt sb n F w m ak cap co ccap w2 :=
  ⟨by rw [ho.block _ (lt_of_block h.cell) (fun e => e)]; exact h.cell, h.row.only ho (fun _ _ e => e), h.sw.only ho (fun _ _ e => e), h.new, h.apart, h.only.same (ho.no _)⟩
theorem DeadAt.skip (h : DeadAt sb n F w m ak cap co ccap wr) {m' : Nat} (hm : m ≤ m') (hf : ∀ j, m ≤ j → j < m' → F.getD j false = true) : DeadAt sb n F w m' ak cap co ccap wr := by
  refine ⟨?_, ?_, ?_, h.new, h.apart, h.only⟩
  · rw [deadL_free hm hf]; exact h.cell
  · rw [deadL_free hm hf]; exact h.row
  · rw [askL_free hm hf]; exact h.sw
/-- Asked: the question keeps its own blocks alone. -/
structure Asked (sb n : Nat) (F : List Bool) (w : World) (m : Nat) (ak : Option Addr) (cap : Nat) (co : Option Addr) (ccap : Nat) (wr : World) : Prop where
  cell : wr.heap[w.heap.size]? = some (.cells #[.slice co (deadL F n m).length ccap] 38 (0, 0))
  row : RowOf enc64 1 3 (w.heap.size + 1) co ccap (deadL F n m) wr
  sw : SweeperAt 0 sb n (askL F (m + 1)) ak cap wr
  new : ∀ g, ak = some g → w.heap.size + 1 ≤ g.block
  apart : ∀ g, co = some g → ¬ Mine sb ak g.block
  only : Only (· = sb) w wr
theorem DeadAt.asked (h : DeadAt sb n F w m ak cap co ccap wr) (hsb : sb < w.heap.size) (hf : F.getD m false = false) (hs : SweeperAt 0 sb n (askL F m ++ [m]) ak' cap' w2) (ho : Only (Mine sb ak) wr w2) (hn : NewRow wr.heap.size ak ak') : Asked sb n F w m ak' cap' co ccap w2 := by
  have hc := lt_of_block h.cell
  have mine : ∀ j, Mine sb ak j → j = sb ∨ w.heap.size + 1 ≤ j := by
    rintro j (rfl | ⟨g, hg, rfl⟩)
    · exact .inl rfl
    · exact .inr (h.new g hg)
  refine ⟨?_, h.row.only ho (fun g hg => h.apart g hg), by rw [askL_taken hf]; exact hs, fun g hg => ?_, fun g hg hm => ?_, h.only.trans ho (fun j hj e => ?_)⟩
  · rw [ho.block _ hc (fun e => by have := mine _ e; omega)]
    exact h.cell
  · rcases hn g hg with h1 | h1
    · exact h.new g h1
    · omega
  · rcases hm with e | ⟨g', hg', e⟩
    · exact h.apart g hg (.inl e)
    · rcases hn g' hg' with h1 | h1
      · exact h.apart g hg (.inr ⟨g', h1, e⟩)
      · have := (h.row.head g hg).2.2
        omega
  · rcases mine j e with h1 | h1
    · exact h1
    · omega
theorem Asked.live (h : Asked sb n F w m ak cap co ccap wr) (hd : m % n ≠ 0) : DeadAt sb n F w (m + 1) ak cap co ccap wr :=
  ⟨by rw [deadL_live hd]; exact h.cell, by rw [deadL_live hd]; exact h.row, h.sw, h.new, h.apart, h.only⟩
theorem Asked.cells (h : Asked sb n F w m ak cap co ccap wr) (ho : Only (RowAt co) wr w2) : w2.heap[w.heap.size]? = some (.cells #[.slice co (deadL F n m).length ccap] 38 (0, 0)) := by
  rw [ho.block _ (lt_of_block h.cell) (by rintro ⟨g, hg, e⟩; have := (h.row.head g hg).2.1; omega)]
  exact h.cell
theorem Asked.dead (h : Asked sb n F w m ak cap co ccap wr) (hf : F.getD m false = false) (hd : m % n = 0) (hrow : RowOf enc64 1 3 (w.heap.size + 1) co' ccap' (deadL F n m ++ [m]) w2) (ho : Only (RowAt co) wr w2) (hn : NewRow wr.heap.size co co') (hsb : sb < w.heap.size) {w3 : World}
    (e : w3 = w2.setCell ⟨w.heap.size, 0, none⟩ (.slice co' (deadL F n m ++ [m]).length ccap')) : DeadAt sb n F w (m + 1) ak cap co' ccap' w3 := by
  have hb := h.cells ho
  have o3 : Only (· = w.heap.size) w2 w3 := by rw [e]; exact Only.setCell (S := (· = w.heap.size)) w2 (p := ⟨w.heap.size, 0, none⟩) rfl _
  have far : ∀ j, RowAt co j → w.heap.size + 1 ≤ j := by
    rintro j ⟨g, hg, rfl⟩
    exact (h.row.head g hg).2.1
  have hmine : ∀ j, Mine sb ak j → j = sb ∨ w.heap.size + 1 ≤ j := by
    rintro j (rfl | ⟨g, hg, rfl⟩)
    · exact .inl rfl
    · exact .inr (h.new g hg)
  have hsw2 : SweeperAt 0 sb n (askL F (m + 1)) ak cap w2 := h.sw.only ho (fun j hj => by rintro ⟨g, hg, rfl⟩; exact h.apart g hg hj)
  refine ⟨?_, ?_, hsw2.only o3 (fun j hj e => by have := hmine j hj; omega), h.new, fun g hg hm => ?_, (h.only.trans ho (fun j hj hx => by have := far j hx; omega)).trans o3 (fun j hj hx => by omega)⟩
  · rw [deadL_dead hf hd, e]
    exact blk_set hb 0 _
  · rw [deadL_dead hf hd]
    exact hrow.only o3 (fun g hg e => by have := (hrow.head g hg).2.1; omega)
  · rcases hn g hg with h1 | h1
    · exact h.apart g h1 hm
    · have := h.sw.lt _ hm
      omega
end
end Go.Proofs.Ytaplfibhhdngbaa.pools
/- Which taken cells are dead, walked. -/
namespace Go.Proofs.Ytaplfibhhdngbaa.pools
section
open Go.RowKit Go.Proofs.Ytaplfibhhdngbaa.own Go.Proofs.Ytaplfibhhdngbaa.trees Go.Proofs.Ytaplfibhhdngbaa.rows Go.Proofs.Ytaplfibhhdngbaa.frames
variable {Sm S : Nat → Prop} {B b k sz : Nat} {so : Option Addr} {scap : Nat} {ao : Option Addr} {cap : Nat} {T : List Int} {f : Nat → Nat} {lim : Nat} {F : List Bool} {St : List Nat} {w w' : World} {sb n : Nat}
/-- The pool, while the question turns its own blocks alone. -/
theorem PoolAt.far (h : PoolAt Sm S B b k sz so scap ao cap T f lim F St w) {Q : Nat → Prop} (ho : Only Q w w') (hq : ∀ j, S j → ¬ Q j) : PoolAt Sm S B b k sz so scap ao cap T f lim F St w' := by
  refine ⟨?_, h.starts.only ho (fun g hg => hq _ (h.inS.2.1 g hg)), h.most.only ho (fun g hg => hq _ (h.inS.2.2 g hg)), h.tree, h.few, h.small, h.leaf, h.rest, h.inv, h.room, h.limit, h.first, h.rising, h.below, h.segs, h.inS, fun j hj => ?_, h.apart⟩
  · rw [ho.block b (h.own b h.inS.1).2 (hq _ h.inS.1)]; exact h.blk
  · have := h.own j hj
    exact ⟨this.1, Nat.lt_of_lt_of_le this.2 ho.size⟩
set_option maxRecDepth 100000 in
set_option maxHeartbeats 4000000 in
theorem dead_any (h : PoolAt Sm S B b k sz so scap ao cap T f lim F St w) (hs : SweeperAt 0 sb n [] none 0 w) (hS : ¬ S sb) (hn1 : 1 ≤ n) (hn2 : n ≤ 100) :
    Calls Try.prog 49 #[.pointer (some ⟨b, 0, none⟩), .func (.func 51) #[.pointer (some ⟨sb, 0, none⟩)] #[]] w fun e w' => ∃ co ccap ak acap, e = .returned (.slice co (deadL F n F.length).length ccap) ∧
      RowOf enc64 1 3 w.heap.size co ccap (deadL F n F.length) w' ∧ SweeperAt 0 sb n (askL F F.length) ak acap w' ∧ (∀ g, ak = some g → w.heap.size ≤ g.block) ∧ (∀ g, co = some g → ¬ Mine sb ak g.block) ∧ Only (· = sb) w w' := by
  obtain ⟨i0, hi, hz0, hz1, hz2⟩ := info_parts info64
  have hmf : ∀ (fn : Fn) (first cap : Array Value) (w : World), (Instr.makeFunc fn first cap).run Try.prog w = .ok (.func fn first cap) w := fun _ _ _ _ => rfl
  have hE := enters_live
  have H := Lib.hid h
  have HS := Lib.hid hs
  have hsb := lt_of_block hs.blk
  have hroom := h.room
  have hfew := h.few
  have HFar : Hid (∀ j, S j → ¬ (j = sb)) := Lib.hid (fun j hj e => hS (e ▸ hj))
  have hbl := (h.own b h.inS.1).2
  clear h hs
  go_enter_defers Try.func49, Try.ntmps49
  go_wp2_with fail
  have HD0 := Lib.hid (DeadAt.start (F := F) HS.out (wr := w.alloc (.cells #[.slice none 0 0] 38)) rfl)
  generalize w.alloc (.cells #[.slice none 0 0] 38) = w1 at *
  go_loopw [5] (fun i wr => ∃ (m : Nat) (ak : Option Addr) (acap : Nat) (co : Option Addr) (ccap : Nat), i = .int .i64 m ∧ m ≤ F.length ∧ (∀ q, q < m → q + f q ≤ m) ∧ Hid (DeadAt sb n F w m ak acap co ccap wr)) (fun i _ => F.length - (intOf i).toNat)
  case atStart => exact ⟨0, none, 0, none, 0, rfl, by omega, fun q hq => by omega, HD0⟩
  case round =>
    obtain ⟨m, ak, acap, co, ccap, rfl, hm, hq, HD⟩ := hrel
    have HP := Lib.hid (H.out.far HD.out.only HFar.out)
    have c1 := HP.out.c1
    by_cases hlt : m < F.length
    · have HR := Lib.hid (HP.out.runsF (by omega))
      have hfm : F.getD m false = true → 0 < f m := fun e => by
        obtain ⟨q, h1, h2⟩ := H.out.inv.all m e
        rcases Nat.lt_or_ge q m with g | g
        · have := hq q g; omega
        · have : q = m := by omega
          subst this
          omega
      have hle := H.out.run_le m
      have HF := Lib.hid hfm
      have HFree : Hid (∀ j, m ≤ j → j < m + f m → F.getD j false = true) := Lib.hid (fun j h1 h2 => H.out.inv.free_of h1 h2)
      have HNx : Hid (∀ q, q < m + f m → 0 < f m → q + f q ≤ m + f m) := Lib.hid (fun q h1 h0 => by
        rcases Nat.lt_trichotomy q m with g | g | g
        · have := hq q g; omega
        · subst g; omega
        · rcases Nat.eq_zero_or_pos (f q) with e | e
          · omega
          · have := H.out.inv.apart g h0 e; omega)
      have HQ := Lib.hid hq
      clear hfm hq
      go_wp2_with fail
      refine (at_f m (by omega) HR.out).mono ?_
      rintro e w2 ⟨rfl, ho⟩
      have HD2 := Lib.hid (HD.out.still ho)
      clear ho HD HP HR c1
      obtain ⟨x, hx⟩ : ∃ x, f m = x := ⟨_, rfl⟩
      rw [hx] at hle HF HFree HNx ⊢
      rcases Nat.eq_zero_or_pos x with h0 | h0
      · subst h0
        have hfm : F.getD m false = false := by
          cases e : F.getD m false with
          | false => rfl
          | true => exact absurd (HF.out e) (by omega)
        have hal := askL_len F m
        have hdl := deadL_len F n m
        go_wp2_with fail
        refine (live_any m HD2.out.sw (Nat.zero_le _) hn1 hn2 (by omega) (by omega)).mono ?_
        rintro e w3 ⟨rfl, ak', acap', hsw, ho3, hnew⟩
        have HA3 := Lib.hid (HD2.out.asked hsb hfm hsw ho3 hnew)
        have hqn : ∀ q, q < m + 1 → q + f q ≤ m + 1 := fun q hq => by
          rcases Nat.lt_or_ge q m with g | g
          · have := HQ.out q g; omega
          · rw [show q = m by omega, hx]; omega
        have HQn := Lib.hid hqn
        clear hsw ho3 hnew HD2 hqn hle
        by_cases hd : m % n = 0
        · have hdec : decide (m % n ≠ 0) = false := by simp [hd]
          rw [hdec]
          have d0 := cell_of_blk HA3.out.cell 0
          have g0 := free_of_blk HA3.out.cell 0
          have hbw : w.heap.size + 1 ≤ w3.heap.size := lt_of_block HA3.out.cell
          go_wp2_with (first
            | (at_builtin; refine wp_append_one lies64 rfl (.tmp 31) (.tmp 33) 38 rfl (w.heap.size + 1) 3 i0 _ 8 Try.underlying38 hi hz0 hz1 hz2 rfl (by omega) w3 co ccap (deadL F n m) m [.int .i64 m] rfl rfl HA3.out.row rfl (by omega) hbw ?_; intro co' ccap' w4 hrow4 ho4 hnew4
               have hb4 := HA3.out.cells ho4
               have HDN := Lib.hid (fun w5 e => HA3.out.dead hfm hd hrow4 ho4 hnew4 hsb (w3 := w5) e)
               have d1 := cell_of_blk hb4 0
               have g1 := free_of_blk hb4 0
               clear hrow4 ho4 hnew4 hb4 d0 g0)
            | fail)
          go_roundw
          case rel => exact ⟨m + 1, ak', acap', co', ccap', by go_num, by omega, HQn.out, Lib.hid (HDN.out _ (by simp))⟩
          case measure => simp [intOf]; omega
        · have hdec : decide (m % n ≠ 0) = true := by simp [hd]
          rw [hdec]
          have HDN := Lib.hid (HA3.out.live hd)
          go_wp2_with fail
          go_roundw
          case rel => exact ⟨m + 1, ak', acap', co, ccap, by go_num, by omega, HQn.out, HDN⟩
          case measure => simp [intOf]; omega
      · have hle2 := hle h0
        have HD3 := Lib.hid (HD2.out.skip (m' := m + x) (by omega) HFree.out)
        have hb1 : (m : Int) + ((x : Int) - 1) ≤ 1048576 := by omega
        clear hle
        go_wp2_with fail
        go_roundw
        case rel => exact ⟨m + x, ak, acap, co, ccap, by go_num, by omega, fun q hq => HNx.out q hq h0, HD3⟩
        case measure => simp [intOf]; omega
    · have hme : m = F.length := by omega
      subst hme
      have d0 := cell_of_blk HD.out.cell 0
      have g0 := free_of_blk HD.out.cell 0
      have o3 : Only (· = w.heap.size) wr (wr.setCell ⟨w.heap.size, 0, none⟩ (.slice co (deadL F n F.length).length ccap)) := Only.setCell (S := (· = w.heap.size)) wr (p := ⟨w.heap.size, 0, none⟩) rfl _
      have hb3 := blk_set HD.out.cell 0 (.slice co (deadL F n F.length).length ccap)
      have hr3 := cell_of_blk hb3 0
      have hmine : ∀ j, Mine sb ak j → j = sb ∨ w.heap.size + 1 ≤ j := by
        rintro j (rfl | ⟨g, hg, rfl⟩)
        · exact .inl rfl
        · exact .inr (HD.out.new g hg)
      have HE : Hid (RowOf enc64 1 3 w.heap.size co ccap (deadL F n F.length) (wr.setCell ⟨w.heap.size, 0, none⟩ (.slice co (deadL F n F.length).length ccap)) ∧ SweeperAt 0 sb n (askL F F.length) ak acap (wr.setCell ⟨w.heap.size, 0, none⟩ (.slice co (deadL F n F.length).length ccap)) ∧ (∀ g, ak = some g → w.heap.size ≤ g.block) ∧ (∀ g, co = some g → ¬ Mine sb ak g.block) ∧ Only (· = sb) w (wr.setCell ⟨w.heap.size, 0, none⟩ (.slice co (deadL F n F.length).length ccap))) := Lib.hid
        ⟨World.ownsRow.mono (HD.out.row.only o3 (fun g hg e => by have := (HD.out.row.head g hg).2.1; omega)) (by omega), HD.out.sw.only o3 (fun j hj e => by have := hmine j hj; omega), fun g hg => by have := HD.out.new g hg; omega, HD.out.apart, HD.out.only.trans o3 (fun j hj e => by omega)⟩
      clear hb3 o3 hmine
      go_wp2_with fail
      change bodyPostD Try.prog Try.f49 _ Exit.ret _ (wr.setCell ⟨w.heap.size, 0, none⟩ (.slice co (deadL F n F.length).length ccap))
      clear d0 g0
      generalize wr.setCell ⟨w.heap.size, 0, none⟩ (.slice co (deadL F n F.length).length ccap) = w9 at *
      simp only [bodyPostD, settle]
      refine leaves_cons (f := 53) (args := #[.pointer (some ⟨w.heap.size, 0, none⟩)]) (by simp) (by simp [go_sem]) ?_
      refine (catch_idle _ _).mono fun e u' w' ⟨e1, e2, e3⟩ => ?_
      subst e1 e2 e3
      obtain ⟨d1, d2, d3, d4, d5⟩ := HE.out
      refine ⟨.slice co (deadL F n F.length).length ccap, ?_, co, ccap, ak, acap, rfl, d1, d2, d3, d4, d5⟩
      have hr4 : w'.cell? ⟨w.heap.size, 0, none⟩ = some (.slice co (deadL F n F.length).length ccap) := hr3
      simp [results, go_sem, asAddr, loadVar, hr4]
end
end Go.Proofs.Ytaplfibhhdngbaa.pools
/- The dead cells are given back: Sweep. -/
namespace Go.Proofs.Ytaplfibhhdngbaa.pools
section
open Go.RowKit Go.Proofs.Ytaplfibhhdngbaa.own Go.Proofs.Ytaplfibhhdngbaa.trees Go.Proofs.Ytaplfibhhdngbaa.rows Go.Proofs.Ytaplfibhhdngbaa.frames
variable {S : Nat → Prop} {B b : Nat} {lim : Nat} {F F' : List Bool} {St : List Nat} {w w' : World} {sb n : Nat}
theorem seg_some (h : Facts lim F St) (a : Nat) : ∃ s, Seg St a s := by
  have part : ∃ i, i ≤ St.length ∧ (∀ t, t < i → St.getD t 0 < a + 1) ∧ ∀ t, i ≤ t → t < St.length → a + 1 ≤ St.getD t 0 := by
    by_cases he : ∃ t, t < St.length ∧ a + 1 ≤ St.getD t 0
    · obtain ⟨t, ht⟩ := he
      induction t using Nat.strongRecOn with
      | ind t ih =>
        by_cases h' : ∃ q, q < t ∧ q < St.length ∧ a + 1 ≤ St.getD q 0
        · obtain ⟨q, h1, h2⟩ := h'
          exact ih q h1 h2
        · refine ⟨t, by omega, fun q hq => ?_, fun q h1 h2 => ?_⟩
          · rcases Nat.lt_or_ge (St.getD q 0) (a + 1) with g | g
            · exact g
            · exact absurd ⟨q, hq, by omega, g⟩ h'
          · have := getD_le h.rising h1 h2
            omega
    · refine ⟨St.length, Nat.le_refl _, fun q hq => ?_, fun q h1 h2 => by omega⟩
      rcases Nat.lt_or_ge (St.getD q 0) (a + 1) with g | g
      · exact g
      · exact absurd ⟨q, hq, g⟩ he
  obtain ⟨i, h1, h2, h3⟩ := part
  exact ⟨i - 1, (Seg.of h.first h1 h2 h3).2⟩
theorem giveF_one (h : Facts lim F St) {a : Nat} (ha : a < F.length) (hf : F.getD a false = false) : giveF F St a 1 = (0, put F a true 1) := by
  obtain ⟨s, hs⟩ := seg_some h a
  unfold giveF
  rw [if_pos]
  · rfl
  · refine ⟨by omega, by omega, by decide, ha, ⟨s, hs, ?_⟩, fun j h1 h2 => ?_⟩
    · show a + 1 ≤ _
      unfold endOf
      split
      · rename_i hl
        exact hs.gt (s + 1) (by omega) hl
      · exact ha
    · have : j = a := by
        have h1' : a ≤ j := h1
        have h2' : j < a + 1 := h2
        omega
      rw [this]
      exact hf
theorem deadL_mem {F : List Bool} {n k j : Nat} (h : j ∈ deadL F n k) : j < k ∧ F.getD j false = false ∧ j % n = 0 := by
  unfold deadL at h
  have h2 := List.mem_filter.1 h
  have h3 := List.mem_range.1 h2.1
  have h4 := h2.2
  simp only [Bool.and_eq_true, Bool.not_eq_true', decide_eq_true_eq] at h4
  exact ⟨h3, h4.1, h4.2⟩
theorem mem_deadL {F : List Bool} {n k j : Nat} (h : j < k) (h1 : F.getD j false = false) (h2 : j % n = 0) : j ∈ deadL F n k := by
  unfold deadL
  refine List.mem_filter.2 ⟨List.mem_range.2 h, ?_⟩
  simp only [Bool.and_eq_true, Bool.not_eq_true', decide_eq_true_eq]
  exact ⟨h1, h2⟩
theorem deadL_rising (F : List Bool) (n k : Nat) : (deadL F n k).Pairwise (· < ·) := (List.pairwise_lt_range).filter _
theorem deadL_new {F : List Bool} {n m k : Nat} (hk : k < (deadL F n m).length) : (deadL F n m)[k] ∉ (deadL F n m).take k := by
  intro hm
  obtain ⟨i, hi, e⟩ := List.mem_iff_getElem.1 hm
  rw [List.length_take] at hi
  rw [List.getElem_take] at e
  have := List.pairwise_iff_getElem.1 (deadL_rising F n m) i k (by omega) hk (by omega)
  omega
/-- Behind a sweep. -/
def sweepF (F : List Bool) (n : Nat) : List Bool := (List.range F.length).map (fun j => F.getD j false || decide (j % n = 0))
/-- Behind k of the dead cells. -/
structure SweepI (S : Nat → Prop) (B b lim : Nat) (F : List Bool) (St : List Nat) (D : List Nat) (w1 : World) (co : Option Addr) (ccap sb n : Nat) (ask : List Nat) (ak : Option Addr) (acap : Nat) (k : Nat) (S' : Nat → Prop) (F' : List Bool) (wr : World) : Prop where
  pool : Pool S' B b lim F' St wr
  sub : ∀ j, S' j → S j ∨ w1.heap.size ≤ j
  len : F'.length = F.length
  are : ∀ j, F'.getD j false = (F.getD j false || decide (j ∈ D.take k))
  row : RowOf enc64 1 3 0 co ccap D wr
  sw : SweeperAt 0 sb n ask ak acap wr
  away : ∀ j, Mine sb ak j ∨ RowAt co j → j < w1.heap.size ∧ ¬ S j
  only : Only S w1 wr
variable {D ask : List Nat} {w1 wr w2 : World} {co ak : Option Addr} {ccap acap k : Nat} {S' : Nat → Prop}
theorem SweepI.apart (h : SweepI S B b lim F St D w1 co ccap sb n ask ak acap k S' F' wr) (j : Nat) (hj : Mine sb ak j ∨ RowAt co j) : ¬ S' j := fun e => by
  rcases h.sub j e with h1 | h1
  · exact (h.away j hj).2 h1
  · have := (h.away j hj).1; omega
theorem SweepI.next (h : SweepI S B b lim F St D w1 co ccap sb n ask ak acap k S' F' wr) {a : Nat} (hk : D[k]? = some a) (ha : a < F'.length) (hp : Pool (Grew S' wr w2) B b lim (put F' a true 1) St w2) (ho : Only S' wr w2) : SweepI S B b lim F St D w1 co ccap sb n ask ak acap (k + 1) (Grew S' wr w2) (put F' a true 1) w2 := by
  have hw := h.only.size
  refine ⟨hp, ?_, by rw [put_len]; exact h.len, fun j => ?_, h.row.only ho (fun g hg => h.apart _ (.inr ⟨g, hg, rfl⟩)), h.sw.only ho (fun j hj => h.apart j (.inl hj)), h.away, h.only.trans ho (fun j hj e => ?_)⟩
  · rintro j (e | e)
    · exact h.sub j e
    · right; omega
  · rw [put_get F' a true 1 (by omega), h.are j, List.take_add_one, hk]
    simp only [Option.toList_some, List.mem_append, List.mem_singleton]
    by_cases e : j = a
    · subst e
      simp
    · rw [if_neg (by omega)]
      congr 1
      simp [e]
  · rcases h.sub j e with h1 | h1
    · exact h1
    · omega
theorem SweepI.done {n' : Nat} (h : SweepI S B b lim F St (deadL F n' F.length) w1 co ccap sb n ask ak acap (deadL F n' F.length).length S' F' wr) : F' = sweepF F n' := by
  have hl : (sweepF F n').length = F.length := by simp [sweepF]
  refine List.ext_getElem? (fun j => ?_)
  rcases Nat.lt_or_ge j F.length with g | g
  · have h1 := h.are j
    rw [List.take_length, List.getD_eq_getElem?_getD, List.getElem?_eq_getElem (by rw [h.len]; exact g)] at h1
    rw [List.getElem?_eq_getElem (by rw [h.len]; exact g), List.getElem?_eq_getElem (by rw [hl]; exact g)]
    simp only [Option.getD_some] at h1
    rw [h1]
    unfold sweepF
    simp only [List.getElem_map, List.getElem_range]
    congr 1
    by_cases hd : j % n' = 0
    · cases hf : F.getD j false with
      | true => simp [hd]
      | false =>
        rw [decide_eq_true (mem_deadL g hf hd), decide_eq_true hd]
    · rw [decide_eq_false hd, decide_eq_false (fun e => hd (deadL_mem e).2.2)]
  · rw [List.getElem?_eq_none (by rw [h.len]; exact g), List.getElem?_eq_none (by rw [hl]; exact g)]
set_option maxRecDepth 100000 in
set_option maxHeartbeats 4000000 in
theorem sweep_any (h : Pool S B b lim F St w) (hs : SweeperAt 0 sb n [] none 0 w) (hS : ¬ S sb) (hn1 : 1 ≤ n) (hn2 : n ≤ 100) :
    Calls Try.prog 23 #[.pointer (some ⟨b, 0, none⟩), .func (.func 51) #[.pointer (some ⟨sb, 0, none⟩)] #[]] w fun e w' => e = .returned (.int .i64 (deadL F n F.length).length) ∧ ∃ S' ak acap,
      Pool S' B b lim (sweepF F n) St w' ∧ (∀ j, S' j → S j ∨ w.heap.size ≤ j) ∧ SweeperAt 0 sb n (askL F F.length) ak acap w' ∧ (∀ g, ak = some g → w.heap.size ≤ g.block) ∧ Only (fun j => S j ∨ j = sb) w w' := by
  have HS := Lib.hid hs
  have H := Lib.hid h
  have hfacts := h.facts
  have hsbl := lt_of_block hs.blk
  have hown := h.own
  obtain ⟨k0, sz, so, scap, ao, cap, T, f, hP⟩ := h
  have HC := Lib.hid (closed_no hP)
  have HP := Lib.hid hP
  have hlim := hfacts.limit
  have HFa := Lib.hid hfacts
  have HOwn := Lib.hid hown
  clear hs hP hfacts hown
  go_enter Try.func23, Try.ntmps23
  go_wp2_with fail
  refine HC.out.mono ?_
  rintro e w1 ⟨rfl, rfl⟩
  go_wp2_with fail
  refine (dead_any HP.out HS.out hS hn1 hn2).mono ?_
  rintro e w1 ⟨co, ccap, ak, acap, rfl, hrow, hsw, hak, hco, ho⟩
  have HO := Lib.hid ho
  have hw1 := ho.size
  have I0 : Hid (SweepI S B b lim F St (deadL F n F.length) w1 co ccap sb n (askL F F.length) ak acap 0 S F w1) := Lib.hid
    ⟨H.out.far ho (fun j hj e => hS (e ▸ hj)), fun j hj => .inl hj, rfl, fun j => by simp, World.ownsRow.mono hrow (Nat.zero_le _), hsw, by
      intro j hj
      rcases hj with (e | ⟨g, hg, e⟩) | ⟨g, hg, e⟩
      · subst e; exact ⟨lt_of_block hsw.blk, hS⟩
      · refine ⟨by rw [e]; exact (hsw.row.head g hg).2.2, fun hx => ?_⟩
        have := hak g hg
        have := (HOwn.out j hx).2
        omega
      · refine ⟨by rw [e]; exact (hrow.head g hg).2.2, fun hx => ?_⟩
        have := (hrow.head g hg).2.1
        have := (HOwn.out j hx).2
        omega, Only.refl _ _⟩
  have HAk := Lib.hid hak
  have hdl := deadL_len F n F.length
  clear hrow hsw hak hco ho HC HP
  obtain ⟨D, hD⟩ : ∃ D, D = deadL F n F.length := ⟨_, rfl⟩
  rw [← hD] at hdl I0 ⊢
  have HD := Lib.hid hD
  clear hD
  go_wp2_with fail
  go_loopw [5, 14] (fun v i wr => ∃ (k : Nat) (S' : Nat → Prop) (F' : List Bool), v = .int .i64 k ∧ i = .int .i64 k ∧ k ≤ D.length ∧ Hid (SweepI S B b lim F St D w1 co ccap sb n (askL F F.length) ak acap k S' F' wr)) (fun _ i _ => D.length - (intOf i).toNat)
  case atStart => exact ⟨0, S, F, rfl, rfl, by omega, I0⟩
  case round =>
    obtain ⟨k, S', F', rfl, rfl, hk, HI⟩ := hrel
    by_cases hlt : k < D.length
    · obtain ⟨g, hg, hcell⟩ := row_cell HI.out.row k hlt
      subst hg
      have hmem : D[k] ∈ deadL F n F.length := by rw [← HD.out]; exact List.getElem_mem _
      have hnew : D[k] ∉ D.take k := by
        have := HD.out
        subst this
        exact deadL_new hlt
      have hkD : D[k]? = some D[k] := List.getElem?_eq_getElem hlt
      have HkD := Lib.hid hkD
      have hdm := deadL_mem hmem
      have hlen := HI.out.len
      have hfa : F'.getD D[k] false = false := by
        rw [HI.out.are, hdm.2.1, decide_eq_false hnew]
        rfl
      have hone := giveF_one (St := St) HI.out.pool.facts (a := D[k]) (by rw [hlen]; exact hdm.1) hfa
      have hal : D[k] < F'.length := by rw [hlen]; exact hdm.1
      have HN := Lib.hid (fun w2 hp ho => HI.out.next (w2 := w2) hkD hal hp ho)
      have hkl : (k : Int) < (D.length : Int) := by omega
      generalize D[k] = a at *
      have HOne := Lib.hid hone
      clear hkD hmem hnew hdm hfa hone hal
      go_wp2_with fail
      refine (give_p a 1 HI.out.pool).mono ?_
      rintro e w2 ⟨rfl, hp, ho⟩
      rw [HOne.out] at hp ⊢
      have HI2 := Lib.hid (HN.out w2 hp ho)
      clear hp ho hcell HN
      go_wp2_with fail
      go_roundw
      case rel => exact ⟨k + 1, _, _, by go_num, by go_num, by omega, HI2⟩
      case measure => simp [intOf]; omega
    · have hke : k = D.length := by omega
      subst hke
      have hF : F' = sweepF F n := by
        have h1 := HI.out
        have := HD.out
        subst this
        exact h1.done
      have HP2 : Hid (Pool S' B b lim (sweepF F n) St wr) := Lib.hid (hF ▸ HI.out.pool)
      have HX : Hid ((∀ j, S' j → S j ∨ w.heap.size ≤ j) ∧ SweeperAt 0 sb n (askL F F.length) ak acap wr ∧ Only (fun j => S j ∨ j = sb) w wr) := Lib.hid
        ⟨fun j hj => by rcases HI.out.sub j hj with h1 | h1; exact .inl h1; right; omega, HI.out.sw, (HO.out.mono (fun j _ e => .inr e)).same (HI.out.only.mono (fun j _ e => .inl e))⟩
      have hkl : ¬ ((D.length : Int) < (D.length : Int)) := by omega
      clear hF
      go_wp2_with fail
      go_ret
      exact ⟨by rw [← HD.out]; rfl, S', HP2.out, HX.out.1, ak, ⟨acap, HX.out.2.1⟩, HAk.out, HX.out.2.2⟩
end
end Go.Proofs.Ytaplfibhhdngbaa.pools
