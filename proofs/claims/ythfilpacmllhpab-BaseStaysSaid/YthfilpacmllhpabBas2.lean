/- Clauses by generations: a base in memory; what reads it. -/
import Derived.Test.YthfilpacmllhpabBas1
namespace Go.Proofs.Ythfilpacmllhpab.bases
set_option maxRecDepth 100000
open Go.RowKit Go.Proofs.Ythfilpacmllhpab.own Go.Lib Go.Maps Go.WideMaps Go.Proofs.Ythfilpacmllhpab.idx
theorem ownsMap_not {H : Type} {k : TypeId} {R : Value → Option (DataW H × List MemPlace)} {m n : Nat} {D : DataW H} {W : World} (h : W.ownsMap Try.prog k R m n D) {cs : Array Value} {t : TypeId} : W.heap[m]? ≠ some (.cells cs t (0, 0)) := fun e => by
  obtain ⟨es, c, hb, _⟩ := h
  rw [hb] at e
  cases e
/-- A slot with its clause (as its six cells say) and code. -/
structure Sl where
  nm : Nm
  hk : Int
  hn : Int
  hs : ByteArray
  ha : Option Addr
  hl : Nat
  hc : Nat
  ga : Option Addr
  gl : Nat
  gc : Nat
  vs : Int
  ca : Option Addr
  cl : Nat
  cc : Nat
  ad : Int
  ki : Int
def encS (s : Sl) : List Value := [.string s.nm.s, .int .i64 s.nm.a, .int .i64 s.hk, .int .i64 s.hn, .string s.hs, .slice s.ha s.hl s.hc, .slice s.ga s.gl s.gc, .int .i64 s.vs, .slice s.ca s.cl s.cc, .int .i64 s.ad, .int .i64 s.ki]
theorem liesS : Lies encS 11 := ⟨fun _ => rfl, by
  intro x u hu
  simp [encS] at hu
  rcases hu with rfl | rfl | rfl | rfl | rfl | rfl | rfl | rfl | rfl | rfl | rfl <;> rfl, by omega⟩
abbrev RowS (ao : Option Addr) (cap : Nat) (xs : List Sl) (w : World) : Prop := RowOf encS 11 94 0 ao cap xs w
/-- A predicate: its name, its box, its table, how many of its clauses were not killed. -/
structure Pc where
  nm : Nm
  pb : Nat
  tb : Nat
  own : Nat → Prop
  st : St
  lv : Int
structure PcI (N : Nat) (p : Pc) (W : World) : Prop where
  box : W.heap[p.pb]? = some (.cells #[.pointer (some ⟨p.tb, 0, none⟩), .int .i64 p.lv] 88 (0, 0))
  tab : TabO p.own p.tb N p.st W
structure BI (b pm N : Nat) (sl : List Sl) (ps : List Pc) (lim gen low : Int) (so : Option Addr) (sc np : Nat) (Dp : D3) (W : World) : Prop where
  box : W.heap[b]? = some (.cells #[.int .i64 lim, .slice so sl.length sc, .map (some pm), .int .i64 gen, .int .i64 low, .int .i64 sl.length] 80 (0, 0))
  row : RowS so sc sl W
  pmap : W.ownsMap Try.prog 82 pbR pm np Dp
  nmap : NsMap Dp (ps.map (fun p => (p.nm, p.pb)))
  nok : NsOk (ps.map (fun p => (p.nm, p.pb)))
  pds : ∀ p ∈ ps, PcI N p W
  apart : ps.Pairwise (fun p q => p.pb ≠ q.pb ∧ ∀ k, p.own k → ¬ q.own k)
  pmo : ∀ p ∈ ps, ¬ p.own pm
  used : ∀ s ∈ sl, 0 < s.ad
  lown : 0 ≤ low ∧ low ≤ sl.length
  nums : np ≤ N ∧ N ≤ 100000 ∧ 0 ≤ gen ∧ gen ≤ N ∧ sl.length ≤ 10000
  lvs : ∀ p ∈ ps, -(N : Int) ≤ p.lv ∧ p.lv ≤ N
  ins : ∀ (i : Nat) (s : Sl), sl[i]? = some s → ∃ p ∈ ps, p.nm = s.nm ∧ ∃ e ∈ p.st.L, e.id = i
  outs : ∀ p ∈ ps, ∀ e ∈ p.st.L, ∃ (i : Nat) (s : Sl), e.id = i ∧ sl[i]? = some s ∧ s.nm = p.nm
section
variable {b pm N : Nat} {sl : List Sl} {ps : List Pc} {lim gen low : Int} {so : Option Addr} {sc np : Nat} {Dp : D3} {w W W' : World}
theorem BI.cells (h : BI b pm N sl ps lim gen low so sc np Dp W) : W.cell? ⟨b, 0, none⟩ = some (.int .i64 lim) ∧ W.cell? ⟨b, 1, none⟩ = some (.slice so sl.length sc) ∧ W.cell? ⟨b, 2, none⟩ = some (.map (some pm)) ∧ W.cell? ⟨b, 3, none⟩ = some (.int .i64 gen) ∧ W.cell? ⟨b, 4, none⟩ = some (.int .i64 low) ∧ W.cell? ⟨b, 5, none⟩ = some (.int .i64 sl.length) := by
  refine ⟨?_, ?_, ?_, ?_, ?_, ?_⟩ <;> (rw [cell_of_blk h.box]; rfl)
theorem BI.slot (h : BI b pm N sl ps lim gen low so sc np Dp W) {i : Nat} {s : Sl} (hs : sl[i]? = some s) : ∃ g, so = some ⟨g, 0, none⟩ ∧ g < W.heap.size ∧ W.cell? ⟨g, i * 11, none⟩ = some (.string s.nm.s) ∧ W.cell? ⟨g, i * 11 + 1, none⟩ = some (.int .i64 s.nm.a) ∧ W.cell? ⟨g, i * 11 + 2, none⟩ = some (.int .i64 s.hk) ∧ W.cell? ⟨g, i * 11 + 3, none⟩ = some (.int .i64 s.hn) ∧ W.cell? ⟨g, i * 11 + 4, none⟩ = some (.string s.hs) ∧ W.cell? ⟨g, i * 11 + 5, none⟩ = some (.slice s.ha s.hl s.hc) ∧ W.cell? ⟨g, i * 11 + 6, none⟩ = some (.slice s.ga s.gl s.gc) ∧ W.cell? ⟨g, i * 11 + 7, none⟩ = some (.int .i64 s.vs) ∧ W.cell? ⟨g, i * 11 + 8, none⟩ = some (.slice s.ca s.cl s.cc) ∧ W.cell? ⟨g, i * 11 + 9, none⟩ = some (.int .i64 s.ad) ∧ W.cell? ⟨g, i * 11 + 10, none⟩ = some (.int .i64 s.ki) ∧ W.frozen? ⟨g, i * 11 + 10, none⟩ = false := by
  obtain ⟨g, rfl, _, hc⟩ := h.row.at liesS i s hs
  exact ⟨g, rfl, (h.row.head _ rfl).2.2, (hc 0 (by decide)).1, (hc 1 (by decide)).1, (hc 2 (by decide)).1, (hc 3 (by decide)).1, (hc 4 (by decide)).1, (hc 5 (by decide)).1, (hc 6 (by decide)).1, (hc 7 (by decide)).1, (hc 8 (by decide)).1, (hc 9 (by decide)).1, (hc 10 (by decide)).1, (hc 10 (by decide)).2⟩
theorem PcI.only {S : Nat → Prop} {p : Pc} (h : PcI N p w) (o : Only S w W) (h1 : ¬ S p.pb) (h2 : ∀ k, p.own k → ¬ S k) : PcI N p W :=
  ⟨by rw [o.block p.pb (lt_of_block h.box) h1]; exact h.box, h.tab.only o h2⟩
theorem BI.later (h : BI b pm N sl ps lim gen low so sc np Dp W) (o : Only (fun _ => False) W W') : BI b pm N sl ps lim gen low so sc np Dp W' :=
  { h with box := by rw [o.block b (lt_of_block h.box) (fun e => e)]; exact h.box, row := h.row.only o (fun _ _ e => e), pmap := ownsMap_only h.pmap o (fun e => e), pds := fun p hp => (h.pds p hp).only o (fun e => e) (fun _ _ e => e) }
/-! ### A nil base -/
theorem closed_nil (w : World) : Calls Try.prog 31 #[.pointer none] w fun e w' => e = .returned (.bool true) ∧ w' = w := by
  go_enter Try.func31, Try.ntmps31
  go_wp2_with fail
  go_ret
  exact ⟨rfl, rfl⟩
theorem closed_no (h : BI b pm N sl ps lim gen low so sc np Dp w) : Calls Try.prog 31 #[.pointer (some ⟨b, 0, none⟩)] w fun e w' => e = .returned (.bool false) ∧ w' = w := by
  obtain ⟨c0, c1, c2, c3, c4, c5⟩ := h.cells
  have hnil : (binOp .eql 77 (.map (some pm)) (.map none)).run Try.prog w = .ok (.bool false) w := by first | rfl | simp [binOp]
  clear h
  go_enter Try.func31, Try.ntmps31
  go_wp2_with fail
  go_ret
  exact ⟨rfl, rfl⟩
theorem gen_any (h : BI b pm N sl ps lim gen low so sc np Dp w) : Calls Try.prog 11 #[.pointer (some ⟨b, 0, none⟩)] w fun e w' => e = .returned (.int .i64 gen) ∧ w' = w := by
  have HC := Lib.hid (closed_no h)
  obtain ⟨c0, c1, c2, c3, c4, c5⟩ := h.cells
  clear h
  go_enter Try.func11, Try.ntmps11
  go_wp2_with fail
  refine HC.out.mono ?_
  rintro e w1 ⟨rfl, rfl⟩
  go_wp2_with fail
  go_ret
  exact ⟨rfl, rfl⟩
theorem slots_any (h : BI b pm N sl ps lim gen low so sc np Dp w) : Calls Try.prog 23 #[.pointer (some ⟨b, 0, none⟩)] w fun e w' => e = .returned (.int .i64 sl.length) ∧ w' = w := by
  have HC := Lib.hid (closed_no h)
  obtain ⟨c0, c1, c2, c3, c4, c5⟩ := h.cells
  clear h
  go_enter Try.func23, Try.ntmps23
  go_wp2_with fail
  refine HC.out.mono ?_
  rintro e w1 ⟨rfl, rfl⟩
  go_wp2_with fail
  go_ret
  exact ⟨rfl, rfl⟩
theorem has_yes (h : BI b pm N sl ps lim gen low so sc np Dp w) {i : Nat} {s : Sl} (hs : sl[i]? = some s) : Calls Try.prog 41 #[.pointer (some ⟨b, 0, none⟩), .int .i64 i] w fun e w' => e = .returned (.bool true) ∧ w' = w := by
  obtain ⟨c0, c1, c2, c3, c4, c5⟩ := h.cells
  obtain ⟨g, rfl, hg, _, _, _, _, _, _, _, _, _, d9, _, _⟩ := h.slot hs
  have hi : i < sl.length := (List.getElem?_eq_some_iff.1 hs).1
  have had := h.used s (List.mem_of_getElem? hs)
  have h0 : (i : Int) ≥ 0 := by omega
  have h0' : (0 : Int) ≤ (i : Int) := by omega
  have h1 : (i : Int) < (sl.length : Int) := by omega
  have h2 : s.ad > 0 := had
  generalize sl.length = n at *
  clear h hs
  go_enter Try.func41, Try.ntmps41
  go_wp2_with fail
  go_ret
  exact ⟨by first | rfl | (simp; done) | (simp; omega), rfl⟩
theorem has_over (h : BI b pm N sl ps lim gen low so sc np Dp w) {i : Nat} (hi : sl.length ≤ i) : Calls Try.prog 41 #[.pointer (some ⟨b, 0, none⟩), .int .i64 i] w fun e w' => e = .returned (.bool false) ∧ w' = w := by
  obtain ⟨c0, c1, c2, c3, c4, c5⟩ := h.cells
  have h0 : (i : Int) ≥ 0 := by omega
  have h0' : (0 : Int) ≤ (i : Int) := by omega
  have h1 : ¬ (i : Int) < (sl.length : Int) := by omega
  generalize sl.length = n at *
  clear h
  go_enter Try.func41, Try.ntmps41
  go_wp2_with fail
  go_ret
  exact ⟨by first | rfl | (simp; done) | (simp; omega), rfl⟩
theorem has_under (h : BI b pm N sl ps lim gen low so sc np Dp w) {i : Int} (hi : i < 0) : Calls Try.prog 41 #[.pointer (some ⟨b, 0, none⟩), .int .i64 i] w fun e w' => e = .returned (.bool false) ∧ w' = w := by
  have h0 : ¬ i ≥ 0 := by omega
  clear h
  go_enter Try.func41, Try.ntmps41
  go_wp2_with fail
  go_ret
  exact ⟨by first | rfl | (simp; done) | (simp; omega), rfl⟩
/-- Does a slot's clause live? -/
def liveS (g : Int) (s : Sl) : Bool := decide (s.ad ≤ g) && (s.ki == 0 || decide (g < s.ki))
theorem lives_yes (h : BI b pm N sl ps lim gen low so sc np Dp w) {i : Nat} {s : Sl} (hs : sl[i]? = some s) (g : Int) : Calls Try.prog 20 #[.pointer (some ⟨b, 0, none⟩), .int .i64 i, .int .i64 g] w fun e w' => e = .returned (.bool (liveS g s)) ∧ w' = w := by
  have HC := Lib.hid (closed_no h)
  have HH := Lib.hid (has_yes h hs)
  obtain ⟨c0, c1, c2, c3, c4, c5⟩ := h.cells
  obtain ⟨g0, rfl, hg, _, _, _, _, _, _, _, _, _, d9, d10, _⟩ := h.slot hs
  have hi : i < sl.length := (List.getElem?_eq_some_iff.1 hs).1
  have h0' : (0 : Int) ≤ (i : Int) := by omega
  have h1 : (i : Int) < (sl.length : Int) := by omega
  unfold liveS
  generalize sl.length = n at *
  generalize s.ad = x at *
  generalize s.ki = y at *
  by_cases h2 : x ≤ g
  · by_cases h3 : y = 0
    · have h3' : (y == 0) = true := by simpa using h3
      have hd : (decide (x ≤ g) && (y == 0 || decide (g < y))) = true := by simp [h2, h3]
      rw [hd]
      clear h hs h3 hd
      go_enter Try.func20, Try.ntmps20
      go_wp2_with fail
      refine HC.out.mono ?_
      rintro e w1 ⟨rfl, rfl⟩
      go_wp2_with fail
      refine HH.out.mono ?_
      rintro e w1 ⟨rfl, rfl⟩
      go_wp2_with fail
      go_ret
      exact ⟨by first | rfl | (simp; done) | (simp; omega), rfl⟩
    · have h3' : (y == 0) = false := by simpa using h3
      by_cases h4 : g < y
      · have hd : (decide (x ≤ g) && (y == 0 || decide (g < y))) = true := by simp [h2, h4]
        rw [hd]
        clear h hs h3 hd
        go_enter Try.func20, Try.ntmps20
        go_wp2_with fail
        refine HC.out.mono ?_
        rintro e w1 ⟨rfl, rfl⟩
        go_wp2_with fail
        refine HH.out.mono ?_
        rintro e w1 ⟨rfl, rfl⟩
        go_wp2_with fail
        go_ret
        exact ⟨by first | rfl | (simp; done) | (simp; omega), rfl⟩
      · have hd : (decide (x ≤ g) && (y == 0 || decide (g < y))) = false := by simp [h3, h4]
        rw [hd]
        clear h hs h3 hd
        go_enter Try.func20, Try.ntmps20
        go_wp2_with fail
        refine HC.out.mono ?_
        rintro e w1 ⟨rfl, rfl⟩
        go_wp2_with fail
        refine HH.out.mono ?_
        rintro e w1 ⟨rfl, rfl⟩
        go_wp2_with fail
        go_ret
        exact ⟨by first | rfl | (simp; done) | (simp; omega), rfl⟩
  · have hd : (decide (x ≤ g) && (y == 0 || decide (g < y))) = false := by simp [h2]
    rw [hd]
    clear h hs hd
    go_enter Try.func20, Try.ntmps20
    go_wp2_with fail
    refine HC.out.mono ?_
    rintro e w1 ⟨rfl, rfl⟩
    go_wp2_with fail
    refine HH.out.mono ?_
    rintro e w1 ⟨rfl, rfl⟩
    go_wp2_with fail
    go_ret
    exact ⟨by first | rfl | (simp; done) | (simp; omega), rfl⟩
theorem size_yes (h : BI b pm N sl ps lim gen low so sc np Dp w) {i : Nat} {s : Sl} (hs : sl[i]? = some s) : Calls Try.prog 22 #[.pointer (some ⟨b, 0, none⟩), .int .i64 i] w fun e w' => e = .returned (.int .i64 s.cl) ∧ w' = w := by
  have HC := Lib.hid (closed_no h)
  have HH := Lib.hid (has_yes h hs)
  obtain ⟨c0, c1, c2, c3, c4, c5⟩ := h.cells
  obtain ⟨g0, rfl, hg, _, _, _, _, _, _, _, _, d8, _, _, _⟩ := h.slot hs
  have hi : i < sl.length := (List.getElem?_eq_some_iff.1 hs).1
  have h0' : (0 : Int) ≤ (i : Int) := by omega
  have h1 : (i : Int) < (sl.length : Int) := by omega
  generalize sl.length = n at *
  clear h hs
  go_enter Try.func22, Try.ntmps22
  go_wp2_with fail
  refine HC.out.mono ?_
  rintro e w1 ⟨rfl, rfl⟩
  go_wp2_with fail
  refine HH.out.mono ?_
  rintro e w1 ⟨rfl, rfl⟩
  go_wp2_with fail
  go_ret
  exact ⟨rfl, rfl⟩
theorem known_any (h : BI b pm N sl ps lim gen low so sc np Dp w) (k : Nm) (hk : k.Ok) : Calls Try.prog 21 #[.pointer (some ⟨b, 0, none⟩), .string k.s, .int .i64 k.a] w fun e w' => e = .returned (.bool (nsF k (ps.map (fun p => (p.nm, p.pb)))).isSome) ∧ w' = w := by
  have HC := Lib.hid (closed_no h)
  obtain ⟨c0, c1, c2, c3, c4, c5⟩ := h.cells
  have hlk := look_ns_ok h.pmap h.nmap h.nok hk
  generalize nsF k (ps.map (fun p => (p.nm, p.pb))) = o at *
  generalize pbV o = v at *
  generalize o.isSome = y at *
  clear h
  go_enter Try.func21, Try.ntmps21
  go_wp2_with fail
  refine HC.out.mono ?_
  rintro e w1 ⟨rfl, rfl⟩
  go_wp2_with fail
  go_ret
  exact ⟨rfl, rfl⟩
end
end Go.Proofs.Ythfilpacmllhpab.bases
