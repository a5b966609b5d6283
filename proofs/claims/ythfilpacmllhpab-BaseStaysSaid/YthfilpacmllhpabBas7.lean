/- Clauses by generations: what a base is while a clause is added: the steps, plain. -/
import Derived.Test.YthfilpacmllhpabBas6
namespace Go.Proofs.Ythfilpacmllhpab.bases
set_option maxRecDepth 100000
open Go.RowKit Go.Proofs.Ythfilpacmllhpab.own Go.Lib Go.Maps Go.WideMaps Go.Proofs.Ythfilpacmllhpab.idx Go.Proofs.Ythfilpacmllhpab.terms
/-- A base's memory, whatever its tables hold. -/
structure BK (b pm N : Nat) (sl : List Sl) (ps : List Pc) (lim gen low us : Int) (so : Option Addr) (sc np : Nat) (Dp : D3) (W : World) : Prop where
  box : BoxB b pm lim gen low us so sl.length sc W
  row : RowS so sc sl W
  pmap : W.ownsMap Try.prog 82 pbR pm np Dp
  nmap : NsMap Dp (ps.map (fun p => (p.nm, p.pb)))
  nok : NsOk (ps.map (fun p => (p.nm, p.pb)))
  pds : ∀ p ∈ ps, PcI N p W
  apart : ps.Pairwise (fun p q => p.pb ≠ q.pb ∧ ∀ k, p.own k → ¬ q.own k)
  pmo : ∀ p ∈ ps, ¬ p.own pm
  used : ∀ s ∈ sl, 0 < s.ad
  nums : np ≤ N ∧ N ≤ 100000 ∧ 0 ≤ gen ∧ gen ≤ N ∧ sl.length ≤ 10000
  lvs : ∀ p ∈ ps, -(N : Int) ≤ p.lv ∧ p.lv ≤ N
section
variable {b pm N : Nat} {sl : List Sl} {ps A C : List Pc} {p p' : Pc} {lim gen low us : Int} {so : Option Addr} {sc np : Nat} {Dp : D3} {w w' W W' : World}
theorem BI.k (h : BI b pm N sl ps lim gen low so sc np Dp W) : BK b pm N sl ps lim gen low sl.length so sc np Dp W := ⟨h.box, h.row, h.pmap, h.nmap, h.nok, h.pds, h.apart, h.pmo, h.used, h.nums, h.lvs⟩
theorem BK.i (h : BK b pm N sl ps lim gen low sl.length so sc np Dp W) (hl : 0 ≤ low ∧ low ≤ sl.length) (hi : ∀ (i : Nat) (s : Sl), sl[i]? = some s → ∃ p ∈ ps, p.nm = s.nm ∧ ∃ e ∈ p.st.L, e.id = i) (ho : ∀ p ∈ ps, ∀ e ∈ p.st.L, ∃ (i : Nat) (s : Sl), e.id = i ∧ sl[i]? = some s ∧ s.nm = p.nm) : BI b pm N sl ps lim gen low so sc np Dp W := ⟨h.box, h.row, h.pmap, h.nmap, h.nok, h.pds, h.apart, h.pmo, h.used, hl, h.nums, h.lvs, hi, ho⟩
theorem BK.only {S : Nat → Prop} (h : BK b pm N sl ps lim gen low us so sc np Dp W) (o : Only S W W') (hb : ¬ S b) (hr : ∀ k, RowAt so k → ¬ S k) (hm : ¬ S pm) (hp : ∀ p ∈ ps, ¬ S p.pb ∧ ∀ k, p.own k → ¬ S k) : BK b pm N sl ps lim gen low us so sc np Dp W' :=
  { h with box := h.box.only o hb, row := h.row.only o (fun g hg => hr _ ⟨g, hg, rfl⟩), pmap := ownsMap_only h.pmap o hm, pds := fun p hq => (h.pds p hq).only o (hp p hq).1 (hp p hq).2 }
theorem BK.later (h : BK b pm N sl ps lim gen low us so sc np Dp W) (o : Only (fun _ => False) W W') : BK b pm N sl ps lim gen low us so sc np Dp W' := h.only o (fun e => e) (fun _ _ e => e) (fun e => e) (fun _ _ => ⟨fun e => e, fun _ _ e => e⟩)
theorem row_kindS {ao : Option Addr} {cap : Nat} {xs : List Sl} (h : RowS ao cap xs W) {k : Nat} (hk : RowAt ao k) : ∃ cs, W.heap[k]? = some (.cells cs 94 (0, 0)) := by
  obtain ⟨g, hg, e⟩ := hk
  rcases h.2 with ⟨h1, _⟩ | ⟨g', cap', cur, hv, _, hbb, _⟩
  · simp only [Value.slice.injEq] at h1
    rw [h1.1] at hg; cases hg
  · simp only [Value.slice.injEq] at hv
    rw [hv.1] at hg
    cases hg
    exact ⟨cur, by rw [e]; exact hbb⟩
/-- The blocks of a base are of unlike kinds. -/
theorem BK.kinds (h : BK b pm N sl ps lim gen low us so sc np Dp W) : ¬ RowAt so b ∧ pm ≠ b ∧ ¬ RowAt so pm ∧ (∀ p ∈ ps, p.pb ≠ b ∧ ¬ RowAt so p.pb ∧ p.pb ≠ pm ∧ ¬ p.own b ∧ (∀ k, RowAt so k → ¬ p.own k) ∧ ¬ p.own p.pb ∧ ∀ q ∈ ps, ¬ p.own q.pb) := by
  have hmap : ∀ {cs : Array Value} {t : TypeId}, W.heap[pm]? ≠ some (.cells cs t (0, 0)) := fun {cs t} => ownsMap_not h.pmap
  refine ⟨row_apart h.row h.box (by decide), fun e => hmap (by rw [e]; exact h.box), fun hk => ?_, fun p hp => ?_⟩
  · obtain ⟨cs, e⟩ := row_kindS h.row hk
    exact hmap e
  · have hpb := (h.pds p hp).box
    have hown := (h.pds p hp).tab.kind
    refine ⟨kind_ne hpb h.box (by decide), row_apart h.row hpb (by decide), fun e => hmap (by rw [← e]; exact hpb), fun hk => (hown b hk).ne h.box (by decide) (by decide) rfl, fun k hk ho => ?_, fun hk => (hown _ hk).ne hpb (by decide) (by decide) rfl, fun q hq hk => (hown _ hk).ne (h.pds q hq).box (by decide) (by decide) rfl⟩
    obtain ⟨cs, e⟩ := row_kindS h.row hk
    exact (hown k ho).ne e (by decide) (by decide) rfl
/-- The base's own box alone has turned. -/
theorem BK.reboxed {gen' low' us' : Int} (h : BK b pm N sl ps lim gen low us so sc np Dp W) (o : Only (· = b) W W') (hb : BoxB b pm lim gen' low' us' so sl.length sc W') (hg : 0 ≤ gen' ∧ gen' ≤ N) : BK b pm N sl ps lim gen' low' us' so sc np Dp W' := by
  obtain ⟨k1, k2, k3, k4⟩ := h.kinds
  refine { h with box := hb, row := h.row.only o (fun g hg' e => k1 ⟨g, hg', e.symm⟩), pmap := ownsMap_only h.pmap o k2, pds := fun p hp => (h.pds p hp).only o (k4 p hp).1 (fun k hk e => (k4 p hp).2.2.2.1 (by rw [← show k = b from e]; exact hk)), nums := by have := h.nums; omega }
/-- A slot more. -/
theorem BK.slotted {so' : Option Addr} {sc' : Nat} {s : Sl} (h : BK b pm N sl ps lim gen low us so sc np Dp W) (o : Only (PutS b so) W W') (hb : BoxB b pm lim gen low (us + 1) so' (sl.length + 1) sc' W') (hr : RowS so' sc' (sl ++ [s]) W') (hs : 0 < s.ad) (hn : sl.length + 1 ≤ 10000) : BK b pm N (sl ++ [s]) ps lim gen low (us + 1) so' sc' np Dp W' := by
  obtain ⟨k1, k2, k3, k4⟩ := h.kinds
  refine { h with box := by rw [List.length_append]; exact hb, row := hr, pmap := ownsMap_only h.pmap o (fun e => e.elim k2 k3), pds := fun p hp => (h.pds p hp).only o (fun e => e.elim (k4 p hp).1 (k4 p hp).2.1) (fun k hk e => ?_), used := fun x hx => ?_, nums := by have := h.nums; rw [List.length_append]; simp; omega }
  · rcases e with e | e
    · exact (k4 p hp).2.2.2.1 (by rw [← e]; exact hk)
    · exact (k4 p hp).2.2.2.2.1 k e hk
  · rcases List.mem_append.1 hx with hx | hx
    · exact h.used x hx
    · rw [List.mem_singleton.1 hx]; exact hs
theorem apart_mid {R : Pc → Pc → Prop} (h : (A ++ p :: C).Pairwise R) : (∀ q ∈ A, R q p) ∧ (∀ q ∈ C, R p q) ∧ (A ++ C).Pairwise R := by
  obtain ⟨h1, h2, h3⟩ := List.pairwise_append.1 h
  obtain ⟨h4, h5⟩ := List.pairwise_cons.1 h2
  exact ⟨fun q hq => h3 q hq p (by simp), h4, List.pairwise_append.2 ⟨h1, h5, fun a ha c hc => h3 a ha c (by simp [hc])⟩⟩
theorem apart_put {R : Pc → Pc → Prop} (h : (A ++ p :: C).Pairwise R) (h1 : ∀ q ∈ A, R q p') (h2 : ∀ q ∈ C, R p' q) : (A ++ p' :: C).Pairwise R := by
  obtain ⟨a1, a2, a3⟩ := List.pairwise_append.1 h
  obtain ⟨a4, a5⟩ := List.pairwise_cons.1 a2
  refine List.pairwise_append.2 ⟨a1, List.pairwise_cons.2 ⟨h2, a5⟩, fun a ha c hc => ?_⟩
  rcases List.mem_cons.1 hc with rfl | hc
  · exact h1 a ha
  · exact a3 a ha c (by simp [hc])
theorem mem_mid {q : Pc} (h : q ∈ A ++ p' :: C) : q = p' ∨ q ∈ A ++ p :: C := by
  rcases List.mem_append.1 h with h | h
  · exact .inr (by simp [h])
  · rcases List.mem_cons.1 h with h | h
    · exact .inl h
    · exact .inr (by simp [h])
/-- One predicate's table has turned. -/
theorem BK.tabbed {own' : Nat → Prop} {st' : St} (h : BK b pm N sl (A ++ p :: C) lim gen low us so sc np Dp W) (o : Only p.own W W') (ht : TabO own' p.tb (N + 1) st' W') (hn : ∀ k, own' k → p.own k ∨ W.heap.size ≤ k) (hN : N + 1 ≤ 100000) : BK b pm (N + 1) sl (A ++ { p with own := own', st := st' } :: C) lim gen low us so sc np Dp W' := by
  obtain ⟨k1, k2, k3, k4⟩ := h.kinds
  have hpm : p ∈ A ++ p :: C := by simp
  obtain ⟨ap1, ap2, _⟩ := apart_mid h.apart
  have hlow : ∀ q ∈ A ++ p :: C, ∀ k, q.own k → k < W.heap.size := fun q hq k hk => ((h.pds q hq).tab.kind k hk).lt
  have hq : ∀ q ∈ A ++ C, q ∈ A ++ p :: C ∧ q.pb ≠ p.pb ∧ ∀ k, q.own k → ¬ p.own k := fun q hq => by
    rcases List.mem_append.1 hq with hq | hq
    · exact ⟨by simp [hq], (ap1 q hq).1, (ap1 q hq).2⟩
    · exact ⟨by simp [hq], fun e => (ap2 q hq).1 e.symm, fun k h1 h2 => (ap2 q hq).2 k h2 h1⟩
  have hstay : ∀ q ∈ A ++ C, PcI (N + 1) q W' := fun q hqm => by
    have h1 := (h.pds q (hq q hqm).1).only o (fun e => (k4 p hpm).2.2.2.2.2.2 q (hq q hqm).1 e) (fun k hk e => (hq q hqm).2.2 k hk e)
    exact ⟨h1.box, h1.tab.more (by omega)⟩
  have hmp : (A ++ { p with own := own', st := st' } :: C).map (fun p => (p.nm, p.pb)) = (A ++ p :: C).map (fun p => (p.nm, p.pb)) := by simp
  have hnew : ∀ q ∈ A ++ C, ∀ k, own' k → ¬ q.own k := fun q hqm k hk hqk => by
    rcases hn k hk with e | e
    · exact (hq q hqm).2.2 k hqk e
    · have := hlow q (hq q hqm).1 k hqk; omega
  refine { box := h.box.only o (k4 p hpm).2.2.2.1, row := h.row.only o (fun g hg e => (k4 p hpm).2.2.2.2.1 _ ⟨g, hg, rfl⟩ e), pmap := ownsMap_only h.pmap o (h.pmo p hpm), nmap := by rw [hmp]; exact h.nmap, nok := by rw [hmp]; exact h.nok, pds := fun q hqm => ?_, apart := apart_put h.apart (fun q hqm => ⟨(ap1 q hqm).1, fun k h1 h2 => hnew q (by simp [hqm]) k h2 h1⟩) (fun q hqm => ⟨(ap2 q hqm).1, fun k h1 h2 => hnew q (by simp [hqm]) k h1 h2⟩), pmo := fun q hqm => ?_, used := h.used, nums := by have := h.nums; omega, lvs := fun q hqm => ?_ }
  · rcases List.mem_append.1 hqm with hqm | hqm
    · exact hstay q (by simp [hqm])
    · rcases List.mem_cons.1 hqm with rfl | hqm
      · refine ⟨?_, ht⟩
        show W'.heap[p.pb]? = _
        rw [o.block p.pb (lt_of_block (h.pds p hpm).box) (k4 p hpm).2.2.2.2.2.1]
        exact (h.pds p hpm).box
      · exact hstay q (by simp [hqm])
  · rcases mem_mid (p := p) hqm with rfl | hqm
    · intro e
      rcases hn pm e with e | e
      · exact h.pmo p hpm e
      · obtain ⟨es, cl, hb, _⟩ := h.pmap
        have := lt_of_block hb
        omega
    · exact h.pmo q hqm
  · rcases mem_mid (p := p) hqm with rfl | hqm
    · have := h.lvs p hpm
      show -((N + 1 : Nat) : Int) ≤ p.lv ∧ p.lv ≤ _
      omega
    · have := h.lvs q hqm
      omega
/-- One predicate's count has turned. -/
theorem BK.counted {lv' : Int} (h : BK b pm N sl (A ++ p :: C) lim gen low us so sc np Dp W) (hl : -(N : Int) ≤ lv' ∧ lv' ≤ N) : BK b pm N sl (A ++ { p with lv := lv' } :: C) lim gen low us so sc np Dp (W.setCell ⟨p.pb, 1, none⟩ (.int .i64 lv')) ∧ Only (· = p.pb) W (W.setCell ⟨p.pb, 1, none⟩ (.int .i64 lv')) := by
  have o : Only (· = p.pb) W (W.setCell ⟨p.pb, 1, none⟩ (.int .i64 lv')) := Only.setCell (S := (· = p.pb)) (p := ⟨p.pb, 1, none⟩) W rfl _
  obtain ⟨k1, k2, k3, k4⟩ := h.kinds
  have hpm : p ∈ A ++ p :: C := by simp
  obtain ⟨ap1, ap2, _⟩ := apart_mid h.apart
  have hmp : (A ++ { p with lv := lv' } :: C).map (fun p => (p.nm, p.pb)) = (A ++ p :: C).map (fun p => (p.nm, p.pb)) := by simp
  have hstay : ∀ q ∈ A ++ p :: C, q.pb ≠ p.pb → PcI N q (W.setCell ⟨p.pb, 1, none⟩ (.int .i64 lv')) := fun q hq hne => (h.pds q hq).only o hne (fun k hk e => (k4 q hq).2.2.2.2.2.2 p hpm (by rw [← show k = p.pb from e]; exact hk))
  refine ⟨{ box := h.box.only o (fun e => (k4 p hpm).1 e.symm), row := h.row.only o (fun g hg e => (k4 p hpm).2.1 ⟨g, hg, e.symm⟩), pmap := ownsMap_only h.pmap o (fun e => (k4 p hpm).2.2.1 e.symm), nmap := by rw [hmp]; exact h.nmap, nok := by rw [hmp]; exact h.nok, pds := fun q hqm => ?_, apart := apart_put h.apart (fun q hqm => ap1 q hqm) (fun q hqm => ap2 q hqm), pmo := fun q hqm => ?_, used := h.used, nums := h.nums, lvs := fun q hqm => ?_ }, o⟩
  · rcases List.mem_append.1 hqm with hqm | hqm
    · exact hstay q (by simp [hqm]) (ap1 q hqm).1
    · rcases List.mem_cons.1 hqm with rfl | hqm
      · refine ⟨?_, (h.pds p hpm).tab.only o (fun k hk e => (k4 p hpm).2.2.2.2.2.1 (by rw [← show k = p.pb from e]; exact hk))⟩
        show (W.setCell ⟨p.pb, 1, none⟩ (.int .i64 lv')).heap[p.pb]? = _
        rw [blk_set (h.pds p hpm).box 1]
        rfl
      · exact hstay q (by simp [hqm]) (fun e => (ap2 q hqm).1 e.symm)
  · rcases mem_mid (p := p) hqm with rfl | hqm
    · exact h.pmo p hpm
    · exact h.pmo q hqm
  · rcases mem_mid (p := p) hqm with rfl | hqm
    · exact hl
    · exact h.lvs q hqm
/-- A predicate more. -/
theorem BK.known (h : BK b pm N sl ps lim gen low us so sc np Dp W) (hp : PcI N p W) (hk : p.nm.Ok) (hn : ∀ q ∈ ps, q.nm ≠ p.nm) (hq : ∀ q ∈ ps, q.pb ≠ p.pb ∧ ∀ k, p.own k → ¬ q.own k) (hpo : ¬ p.own pm) (hlv : p.lv = 0) (o : Only (· = pm) W W') (hm : W'.ownsMap Try.prog 82 pbR pm (np + 1) (Dp.put (keyM p.nm) (.held (p.pb + 1)))) (hN : N + 1 ≤ 100000) : BK b pm (N + 1) sl (p :: ps) lim gen low us so sc (np + 1) (Dp.put (keyM p.nm) (.held (p.pb + 1))) W' := by
  obtain ⟨k1, k2, k3, k4⟩ := h.kinds
  have hnm : ∀ q ∈ ps.map (fun p => (p.nm, p.pb)), q.1 ≠ p.nm := fun q hq' => by
    obtain ⟨x, hx, rfl⟩ := List.mem_map.1 hq'
    exact hn x hx
  have hpp : p.pb ≠ pm := fun e => ownsMap_not h.pmap (by rw [← e]; exact hp.box)
  refine { box := h.box.only o (fun e => k2 e.symm), row := h.row.only o (fun g hg e => k3 ⟨g, hg, e.symm⟩), pmap := hm, nmap := h.nmap.put h.nok hk hnm p.pb, nok := ⟨fun q hq' => ?_, List.pairwise_cons.2 ⟨fun q hq' e => hnm q hq' e.symm, h.nok.one⟩⟩, pds := fun q hq' => ?_, apart := List.pairwise_cons.2 ⟨fun q hq' => ⟨fun e => (hq q hq').1 e.symm, (hq q hq').2⟩, h.apart⟩, pmo := fun q hq' => ?_, used := h.used, nums := by have := h.nums; omega, lvs := fun q hq' => ?_ }
  · rcases List.mem_cons.1 hq' with rfl | hq'
    · exact hk
    · exact h.nok.ok q hq'
  · rcases List.mem_cons.1 hq' with rfl | hq'
    · have h1 := hp.only o hpp (fun k hk e => hpo (by rw [← show k = pm from e]; exact hk))
      exact ⟨h1.box, h1.tab.more (by omega)⟩
    · have h1 := (h.pds q hq').only o (k4 q hq').2.2.1 (fun k hk e => h.pmo q hq' (by rw [← show k = pm from e]; exact hk))
      exact ⟨h1.box, h1.tab.more (by omega)⟩
  · rcases List.mem_cons.1 hq' with rfl | hq'
    · exact hpo
    · exact h.pmo q hq'
  · rcases List.mem_cons.1 hq' with rfl | hq'
    · rw [hlv]; omega
    · have := h.lvs q hq'
      omega
end
end Go.Proofs.Ythfilpacmllhpab.bases
