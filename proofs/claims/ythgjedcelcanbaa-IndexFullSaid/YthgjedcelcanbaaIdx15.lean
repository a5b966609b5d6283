/- Selection by keys: a table with an entry more. -/
import Derived.Test.YthgjedcelcanbaaIdx14
namespace Go.Proofs.Ythgjedcelcanbaa.idx
set_option maxRecDepth 100000
open Go.RowKit Go.Proofs.Ythgjedcelcanbaa.own Go.Lib Go.Maps Go.WideMaps
theorem step_mapUpdate {H : Type} {P : Program} {ops : Array Oper} {o : Oper} {a : Act} {w : World} {K : Act → World → Prop} {Q : Exit → Act → World → Prop} {F : Prop} (hgd : o.guard = none) (m x v : Operand) (t : TypeId) (hop : o.op = Op.mapUpdate t m x v)
    (k e : TypeId) (Kd : Keyed P k) (ht : P.underlying t = some (.map k e)) (R : Value → Option (DataW H × List MemPlace)) (b n : Nat) (D : DataW H)
    (hm : a.eval m = .map (some b)) (hown : w.ownsMap P k R b n D) (hn : n < maxLen) (key val : Value) (kl : Lit) (hx : a.eval x = key) (hv : a.eval v = val) (hkey : keyOf P k key = some kl)
    (d : DataW H) (ps : List MemPlace) (hval : R val = some (d, ps))
    (hK : ∀ w', w'.ownsMap P k R b (n + 1) (D.put kl d) → w.mapTurned w' b → K (a.put o.dst undef) w') :
    if Region.wanted o (yielded ops a.tmps) = true then Oper.wp P o a w K Q else F := by
  have hw : Region.wanted o (yielded ops a.tmps) = true := by simp [Region.wanted, hgd]
  rw [if_pos hw]
  obtain ⟨w', hrun, r1, r2⟩ := hown.store Kd ht hn hkey hval
  unfold Oper.wp
  simp [execOp, hop, hm, hx, hv, hrun, Result.andThen]
  exact hK w' r1 r2
theorem Only.turned {w w' : World} {b : Nat} (h : w.mapTurned w' b) : Only (· = b) w w' := (Only.grown h.grown).mono (fun _ _ e => by simpa using e)
def insF (f : Bool) (e : En) (xs : List En) : List En := if f = true then e :: xs else xs ++ [e]
theorem ins_len (f : Bool) (e : En) (xs : List En) : (insF f e xs).length = xs.length + 1 := by unfold insF; split <;> simp
theorem mem_ins {f : Bool} {e x : En} {xs : List En} : x ∈ insF f e xs ↔ x = e ∨ x ∈ xs := by
  unfold insF
  split
  · rw [List.mem_cons]
  · rw [List.mem_append, List.mem_singleton, or_comm]
theorem ins_perm (f : Bool) (e : En) (xs : List En) : (insF f e xs).Perm (e :: xs) := by
  unfold insF
  split
  · exact List.Perm.refl _
  · exact List.perm_append_comm
theorem ins_filter (f : Bool) (e : En) (xs : List En) (q : En → Bool) : (insF f e xs).filter q = if q e = true then insF f e (xs.filter q) else xs.filter q := by
  unfold insF
  cases f <;> cases hq : q e <;> simp [hq, List.filter_append]
theorem ins_cls (f : Bool) (e : En) (xs : List En) : cls e.key (insF f e xs) = insF f e (cls e.key xs) := by
  unfold cls
  rw [ins_filter, if_pos (eqK_refl _)]
theorem ins_cls_ne {f : Bool} {e : En} {xs : List En} {k : Ky} (h : k ≠ e.key) : cls k (insF f e xs) = cls k xs := by
  unfold cls
  rw [ins_filter, if_neg (by rw [eqK_ne (fun x => h x.symm)]; simp)]
/-- The entry that is put in: ahead of all, or behind all. -/
def Ends (f : Bool) (e : En) (xs : List En) : Prop := if f = true then ∀ x ∈ xs, e.pl < x.pl else ∀ x ∈ xs, x.pl < e.pl
theorem Ends.sub {f : Bool} {e : En} {xs ys : List En} (h : Ends f e xs) (hs : ∀ y ∈ ys, y ∈ xs) : Ends f e ys := by
  unfold Ends at *
  cases f with
  | true => exact fun y hy => h y (hs y hy)
  | false => exact fun y hy => h y (hs y hy)
theorem ins_rises {f : Bool} {e : En} {xs : List En} (hr : Rises xs) (he : Ends f e xs) : Rises (insF f e xs) := by
  unfold Ends at he
  unfold insF
  cases f with
  | true => exact List.pairwise_cons.2 ⟨he, hr⟩
  | false =>
    refine List.pairwise_append.2 ⟨hr, List.pairwise_singleton _ _, fun x hx y hy => ?_⟩
    rw [List.mem_singleton.1 hy]
    exact he x hx
theorem ins_alone {f : Bool} {e : En} {xs : List En} (hr : Alone xs) (he : ∀ x ∈ xs, x.id ≠ e.id) : Alone (insF f e xs) :=
  ((ins_perm f e xs).pairwise_iff (R := fun a b : En => a.id ≠ b.id) (fun {a b} (h : a.id ≠ b.id) => h.symm)).2 (List.pairwise_cons.2 ⟨fun x hx => (he x hx).symm, hr⟩)
theorem pairs {α : Type} {R : α → α → Prop} (hs : ∀ x y, R x y → R y x) : ∀ {l : List α}, l.Pairwise R → ∀ p ∈ l, ∀ q ∈ l, p ≠ q → R p q := by
  intro l
  induction l with
  | nil => intro _ p hp; cases hp
  | cons a r ih =>
    intro h p hp q hq hne
    have h' := List.pairwise_cons.1 h
    rcases List.mem_cons.1 hp with e1 | hp1
    · rcases List.mem_cons.1 hq with e2 | hq1
      · exact absurd (e1.trans e2.symm) hne
      · rw [e1]; exact h'.1 q hq1
    · rcases List.mem_cons.1 hq with e2 | hq1
      · rw [e2]; exact hs _ _ (h'.1 p hp1)
      · exact ih h'.2 p hp1 q hq1 hne
theorem with_any (f : Bool) (ao : Option Addr) (cap : Nat) (xs : List En) (e : En) (w : World) (h : RowE ao cap xs w) (hs : Rises xs) (hl : xs.length ≤ 1000000) (hp : Ends f e xs) :
    Calls Try.prog 30 #[.slice ao xs.length cap, enV e] w (AnsRow ao (insF f e xs) w) := by
  unfold Ends at hp
  unfold insF
  cases f with
  | true => exact with_front ao cap xs e w h hs hl hp
  | false => exact with_back ao cap xs e w h hs hl hp
theorem row_ne_map {H : Type} {k : TypeId} {R : Value → Option (DataW H × List MemPlace)} {m n : Nat} {D : DataW H} {ao : Option Addr} {cap : Nat} {xs : List En} {w : World} (h : RowE ao cap xs w) (hm : w.ownsMap Try.prog k R m n D) : ¬ RowAt ao m := by
  rintro ⟨g, hg, e⟩
  rcases h.2 with ⟨h1, _⟩ | ⟨g', cap', cur, hv, _, hbb, _⟩
  · simp only [Value.slice.injEq] at h1
    rw [h1.1] at hg; cases hg
  · simp only [Value.slice.injEq] at hv
    rw [hv.1] at hg
    cases hg
    obtain ⟨es, clock, hb, _⟩ := hm
    have e' : m = g' := e
    rw [e', hbb] at hb
    cases hb
theorem not_at {ao : Option Addr} {m : Nat} (h : ¬ RowAt ao m) : ∀ g, ao = some g → ¬ (g.block = m) := fun g hg e => h ⟨g, hg, e.symm⟩
section
variable {b mr mi N : Nat} {L : List En} {lo hi : Int} {ks : Ks} {ao ao' a a' : Option Addr} {cap cap' c c' nr ni : Nat} {Dr Dr' : D2} {Di Di' : D1} {W W0 W1 W2 W3 W4 W5 : World} {f : Bool} {e : En}
set_option maxHeartbeats 4000000 in
theorem TabI.added (h : TabI b mr mi N L lo hi ks ao cap nr ni Dr Di W0) (hN : nr + 1 ≤ N ∧ ni + 1 ≤ N) (hpl : lo < e.pl ∧ e.pl < hi) (hends : Ends f e L) (hkey : e.key.Ok ∧ Fit e.id ∧ (e.key.k = 0 → e.key = zK)) (hid : ∀ x ∈ L, x.id ≠ e.id) (hfew : L.length < 4096)
    (o1 : Only (· = mi) W0 W1) (hi1 : W1.ownsMap Try.prog 3 enR mi (ni + 1) (Di.put (keyN e.id) (enD e)))
    (o2 : Only (RowAt ao) W1 W2) (r2 : RowE ao' cap' (insF f e L) W2) (n2 : NewRow W1.heap.size ao ao')
    (o3 : Only (· = b) W2 W3) (box3 : W3.heap[b]? = some (.cells #[.slice ao' (insF f e L).length cap', .map (some mr), .map (some mi), .int .i64 lo, .int .i64 hi] 53 (0, 0)))
    (hrow : RowE a c (cls e.key L) W0) (hat : (a = none ∧ c = 0 ∧ ∀ p ∈ ks, p.1 ≠ e.key) ∨ (e.key, (a, (cls e.key L).length, c)) ∈ ks)
    (o4 : Only (RowAt a) W3 W4) (r4 : RowE a' c' (insF f e (cls e.key L)) W4) (n4 : NewRow W3.heap.size a a')
    (o5 : Only (· = mr) W4 W5) (hm5 : W5.ownsMap Try.prog 32 hdR mr (nr + 1) (Dr.put (keyK e.key) (.held (a', (insF f e (cls e.key L)).length, c')))) :
    TabI b mr mi N (insF f e L) lo hi (setK ks e.key (a', (insF f e (cls e.key L)).length, c')) ao' cap' (nr + 1) (ni + 1) (Dr.put (keyK e.key) (.held (a', (insF f e (cls e.key L)).length, c'))) (Di.put (keyN e.id) (enD e)) W5 := by
  have hb0 := lt_of_block h.box
  obtain ⟨_, _, hmi0, _⟩ := id h.idm
  obtain ⟨_, _, hmr0, _⟩ := id h.rkm
  have hmiL := lt_of_block hmi0
  have hmrL := lt_of_block hmr0
  have hbm : b ≠ mi ∧ b ≠ mr := by
    constructor <;> (intro e; have := h.box; rw [e] at this; first | (rw [hmi0] at this; cases this) | (rw [hmr0] at this; cases this))
  -- rows that stood at the beginning
  have hstay : ∀ (q : Option Addr) (cq : Nat) (xs : List En), RowE q cq xs W0 → (∀ g g', ao = some g → q = some g' → g.block ≠ g'.block) → (∀ g g', a = some g → q = some g' → g.block ≠ g'.block) → RowE q cq xs W5 := fun q cq xs hq ha1 ha2 => by
    have q1 := hq.only o1 (fun g hg => not_at (row_ne_map hq h.idm) g hg)
    have q2 := q1.only o2 (fun g hg x => by obtain ⟨g2, hg2, e2⟩ := x; exact ha1 g2 g hg2 hg e2.symm)
    have hb1 : W1.heap[b]? = _ := (o1.block b hb0 hbm.1).trans h.box
    have hb2 : W2.heap[b]? = _ := (o2.block b (Nat.lt_of_lt_of_le hb0 o1.size) (row_apart (h.row.only o1 (fun g hg => not_at (row_ne_map h.row h.idm) g hg)) hb1 (by decide))).trans hb1
    have q3 := q2.only o3 (fun g hg x => row_apart q2 hb2 (by decide) ⟨g, hg, x.symm⟩)
    have q4 := q3.only o4 (fun g hg x => by obtain ⟨g2, hg2, e2⟩ := x; exact ha2 g2 g hg2 hg e2.symm)
    have m1 : W1.ownsMap Try.prog 32 hdR mr nr Dr := ownsMap_only h.rkm o1 h.apm
    have m2 := ownsMap_only m1 o2 (row_ne_map (h.row.only o1 (fun g hg => not_at (row_ne_map h.row h.idm) g hg)) m1)
    have m3 := ownsMap_only m2 o3 (fun e => hbm.2 e.symm)
    have ra1 := hrow.only o1 (fun g hg => not_at (row_ne_map hrow h.idm) g hg)
    have q4' := o4
    have m4 : W4.ownsMap Try.prog 32 hdR mr nr Dr := ownsMap_only m3 o4 (by
      rintro ⟨g, hg, e⟩
      rcases hrow.2 with ⟨h1, _⟩ | ⟨g', cap2, cur, hv, _, hbb, _⟩
      · simp only [Value.slice.injEq] at h1
        rw [h1.1] at hg; cases hg
      · simp only [Value.slice.injEq] at hv
        rw [hv.1] at hg
        cases hg
        have e' : mr = g' := e
        rw [e', hbb] at hmr0
        cases hmr0)
    exact q4.only o5 (fun g hg x => row_ne_map q4 m4 ⟨g, hg, x.symm⟩)
  have hra : ∀ k, RowAt a k → k < W0.heap.size ∧ k ≠ b ∧ k ≠ mi ∧ k ≠ mr := fun k hk => by
    refine ⟨?_, fun e => row_apart hrow h.box (by decide) (e ▸ hk), fun e => row_ne_map hrow h.idm (e ▸ hk), fun e => row_ne_map hrow h.rkm (e ▸ hk)⟩
    obtain ⟨g, hg, e⟩ := hk
    rw [e]; exact (hrow.head g hg).2.2
  have hrao : ∀ k, RowAt ao k → k < W0.heap.size ∧ k ≠ b ∧ k ≠ mi ∧ k ≠ mr := fun k hk => by
    refine ⟨?_, fun e => row_apart h.row h.box (by decide) (e ▸ hk), fun e => row_ne_map h.row h.idm (e ▸ hk), fun e => row_ne_map h.row h.rkm (e ▸ hk)⟩
    obtain ⟨g, hg, e⟩ := hk
    rw [e]; exact (h.row.head g hg).2.2
  have s1 := o1.size
  have s2 := o2.size
  have s3 := o3.size
  have s4 := o4.size
  -- the rows' blocks keep apart
  have hao' : ∀ g, ao' = some g → g.block < W2.heap.size := fun g hg => (r2.head g hg).2.2
  have ha_ao : ∀ g g', ao = some g → a = some g' → g.block ≠ g'.block := fun g g' hg hg' => by
    rcases hat with ⟨rfl, _, _⟩ | hat
    · cases hg'
    · exact h.ap1 _ hat g g' hg hg'
  have hnew1 : ∀ g g', ao' = some g → a' = some g' → g.block ≠ g'.block := fun g g' hg hg' e => by
    have hgl := hao' g hg
    rcases n4 g' hg' with h4 | h4
    · rcases n2 g hg with h2 | h2
      · exact ha_ao g g' h2 h4 e
      · have := (hra _ ⟨g', h4, rfl⟩).1; omega
    · omega
  have hold1 : ∀ p ∈ ks, ∀ g g', ao' = some g → p.2.1 = some g' → g.block ≠ g'.block := fun p hp g g' hg hg' e => by
    rcases n2 g hg with h2 | h2
    · exact h.ap1 p hp g g' h2 hg' e
    · have := ((h.rows p hp).1.head g' hg').2.2; omega
  have hold2 : ∀ p ∈ ks, p.1 ≠ e.key → ∀ g g', a = some g → p.2.1 = some g' → g.block ≠ g'.block := fun p hp hne g g' hg hg' ee => by
    rcases hat with ⟨rfl, _, _⟩ | hat
    · cases hg
    · have := pairs (R := fun p q : Ky × Hd => ∀ g g', p.2.1 = some g → q.2.1 = some g' → g.block ≠ g'.block) (fun x y hxy g g' h1 h2 e => hxy g' g h2 h1 e.symm) h.ap2 p hp _ hat (fun e' => hne (by rw [e']))
      exact this g' g hg' hg ee.symm
  have hold3 : ∀ p ∈ ks, p.1 ≠ e.key → ∀ g g', a' = some g → p.2.1 = some g' → g.block ≠ g'.block := fun p hp hne g g' hg hg' ee => by
    rcases n4 g hg with h4 | h4
    · exact hold2 p hp hne g g' h4 hg' ee
    · have := ((h.rows p hp).1.head g' hg').2.2; omega
  have hb3 := lt_of_block box3
  have box5 := (o5.block b (Nat.lt_of_lt_of_le hb3 s4) hbm.2).trans ((o4.block b hb3 (fun x => (hra b x).2.1 rfl)).trans box3)
  have row5 : RowE ao' cap' (insF f e L) W5 := by
    have hb1 : W1.heap[b]? = _ := (o1.block b hb0 hbm.1).trans h.box
    have hb2 : W2.heap[b]? = _ := (o2.block b (Nat.lt_of_lt_of_le hb0 s1) (fun x => (hrao b x).2.1 rfl)).trans hb1
    have q3 := r2.only o3 (fun g hg x => row_apart r2 hb2 (by decide) ⟨g, hg, x.symm⟩)
    have q4 := q3.only o4 (fun g hg x => by
      obtain ⟨g2, hg2, e2⟩ := x
      rcases n2 g hg with h2 | h2
      · exact ha_ao g g2 h2 hg2 e2
      · have := (hra _ ⟨g2, hg2, rfl⟩).1; omega)
    refine q4.only o5 (fun g hg x => ?_)
    have x' : g.block = mr := x
    rcases n2 g hg with h2 | h2
    · exact (hrao _ ⟨g, h2, rfl⟩).2.2.2 x'
    · omega
  have idm5 : W5.ownsMap Try.prog 3 enR mi (ni + 1) (Di.put (keyN e.id) (enD e)) :=
    ownsMap_only (ownsMap_only (ownsMap_only (ownsMap_only hi1 o2 (fun x => (hrao mi x).2.2.1 rfl)) o3 (fun x => hbm.1 x.symm)) o4 (fun x => (hra mi x).2.2.1 rfl)) o5 (fun x => h.apm x.symm)
  have r5 : RowE a' c' (insF f e (cls e.key L)) W5 := r4.only o5 (fun g hg x => by
    have x' : g.block = mr := x
    rcases n4 g hg with h4 | h4
    · exact (hra _ ⟨g, h4, rfl⟩).2.2.2 x'
    · omega)
  refine ⟨box5, row5, idm5, h.idl.put hid (ins_perm f e L), hm5, h.rkl.put h.ksok hkey.1 _, h.ksok.set hkey.1 _, fun p hp => ?_, fun x hx => ?_, fun p hp => ?_, ?_, h.apm, ⟨ins_rises h.pl.rises hends, fun x hx => ?_, fun x hx => ?_⟩, ins_alone h.alone hid, fun x hx => ?_, by rw [ins_len]; omega, ?_⟩
  · rcases List.mem_cons.1 hp with rfl | hp
    · exact ⟨by rw [ins_cls]; exact r5, by rw [ins_cls]⟩
    · obtain ⟨hp1, hp2⟩ := mem_delK.1 hp
      rw [ins_cls_ne hp2]
      exact ⟨hstay _ _ _ (h.rows p hp1).1 (h.ap1 p hp1) (hold2 p hp1 hp2), (h.rows p hp1).2⟩
  · by_cases hk : x.key = e.key
    · exact ⟨_, List.mem_cons.2 (.inl (by rw [hk]))⟩
    · rcases mem_ins.1 hx with rfl | hx
      · exact absurd rfl hk
      · obtain ⟨hd, hm⟩ := h.cover x hx
        exact ⟨hd, List.mem_cons.2 (.inr (mem_delK.2 ⟨hm, hk⟩))⟩
  · rcases List.mem_cons.1 hp with rfl | hp
    · exact hnew1
    · exact hold1 p (mem_delK.1 hp).1
  · refine List.pairwise_cons.2 ⟨fun p hp => ?_, h.ap2.sublist List.filter_sublist⟩
    obtain ⟨hp1, hp2⟩ := mem_delK.1 hp
    exact hold3 p hp1 hp2
  · rcases mem_ins.1 hx with rfl | hx
    · exact hpl.1
    · exact h.pl.low x hx
  · rcases mem_ins.1 hx with rfl | hx
    · exact hpl.2
    · exact h.pl.high x hx
  · rcases mem_ins.1 hx with rfl | hx
    · exact hkey
    · exact h.keys x hx
  · have := h.nums; omega
end
end Go.Proofs.Ythgjedcelcanbaa.idx
