/- Clauses by generations: the law BaseStays (the sort's contract is a hypothesis). -/
import Derived.Test.YthfilpacmllhpabBas32
namespace Go.Proofs.Ythfilpacmllhpab.bases
set_option maxRecDepth 100000
open Go.RowKit Go.Proofs.Ythfilpacmllhpab.own Go.Lib Go.Maps Go.WideMaps Go.Proofs.Ythfilpacmllhpab.idx Go.Proofs.Ythfilpacmllhpab.terms
/-- A base behind k calls. -/
def Sg (b k : Nat) (w0 w : World) : Prop := ∃ pm N sl ps gen low, Lg b pm N sl ps gen low (fun _ => False) w0 w ∧ N ≤ 2 * k ∧ sl.length ≤ k
theorem Sg.start {b pm : Nat} {w w' : World} (hb : b = w.heap.size + 1) (hp : pm = w.heap.size) (h : BI b pm 0 [] [] 16384 0 0 none 0 0 (.map []) w') (o : Only (fun _ => False) w w') : Sg b 0 w w' :=
  ⟨pm, 0, [], [], 0, 0, ⟨Bs.new hb hp h o, fun p hp => by simp at hp, fun s hs => by simp at hs, fun p hp => by simp at hp, Nat.le_refl _⟩, Nat.le_refl _, Nat.le_refl _⟩
theorem Sg.since {b k : Nat} {w0 w : World} (h : Sg b k w0 w) : Only (fun _ => False) w0 w := by
  obtain ⟨pm, N, sl, ps, gen, low, h1, _⟩ := h
  exact h1.bs.since
theorem Sg.later {b k : Nat} {w0 w w' : World} (h : Sg b k w0 w) (o : Only (fun _ => False) w w') : Sg b k w0 w' := by
  obtain ⟨pm, N, sl, ps, gen, low, h1, h2⟩ := h
  exact ⟨pm, N, sl, ps, gen, low, h1.later o, h2⟩
theorem Sg.gon {b k pm N : Nat} {sl : List Sl} {ps : List Pc} {gen : Int} {w0 w w' : World} (hN : N ≤ 2 * k) (hsl : sl.length ≤ k) (h : Gon b pm N sl ps gen (fun _ => False) w0 w w') : Sg b (k + 1) w0 w' := by
  obtain ⟨N', sl', ps', gen', low', h1, _, h3, h4⟩ := h.lg
  exact ⟨pm, N', sl', ps', gen', low', h1, by omega, by omega⟩
theorem Sg.add {b k : Nat} {w0 w : World} (h : Sg b k w0 w) (hk : k ≤ 1000) (x : BO) (hx : x.Ok w0) (hf : x.Fine) : Calls Try.prog 9 #[.pointer (some ⟨b, 0, none⟩), .agg #[.int .i64 x.t.k, .int .i64 x.t.n, .string x.t.s, .slice x.ao x.t.l.length x.cap, .slice x.go x.gs.length x.gc, .int .i64 x.v], .slice x.co x.is.length x.cc, .bool x.f] w fun e w' => (∃ i e', e = .returned (.tuple #[.int .i64 i, .int .i64 e'])) ∧ Sg b (k + 1) w0 w' := by
  obtain ⟨pm, N, sl, ps, gen, low, h1, h2, h3⟩ := h
  refine (h1.add x.t x.ao x.cap x.v hx.t hx.r (by have := hf.t; omega) x.go x.gs x.gc (hx.g.sized hf.gs) (by have := hf.g; omega) x.co x.cc x.is hx.c0 hx.c hx.cb (by have := hf.c; omega) x.f (by omega) (by omega)).mono ?_
  rintro e w' ⟨he, hg⟩
  exact ⟨he, Sg.gon h2 h3 hg⟩
theorem Sg.kill {b k : Nat} {w0 w : World} (h : Sg b k w0 w) (hk : k ≤ 1000) (n : Int) : Calls Try.prog 10 #[.pointer (some ⟨b, 0, none⟩), .int .i64 n] w fun e w' => (∃ e', e = .returned (.int .i64 e')) ∧ Sg b (k + 1) w0 w' := by
  obtain ⟨pm, N, sl, ps, gen, low, h1, h2, h3⟩ := h
  refine (h1.kill n (by omega)).mono ?_
  rintro e w' ⟨he, hg⟩
  exact ⟨he, Sg.gon h2 h3 hg⟩
theorem BO.Ok.later {x : BO} {w w' : World} (h : x.Ok w) (o : Only (fun _ => False) w w') : x.Ok w' := ⟨h.t, h.r.later o, h.g.later o, h.c0, src_only h.c o (fun ad e he => ⟨h.cb ad e he, fun e => e⟩), fun ad e he => Nat.lt_of_lt_of_le (h.cb ad e he) o.size⟩
theorem Sg.more {b k : Nat} {w0 w : World} (h : Sg b k w0 w) : Sg b (k + 1) w0 w := by
  obtain ⟨pm, N, sl, ps, gen, low, h1, h2, h3⟩ := h
  exact ⟨pm, N, sl, ps, gen, low, h1, by omega, by omega⟩
/-- One of the rows of numbers that were told. -/
structure WaE where
  a : Option Addr
  l : List Int
  c : Nat
def encWa (x : WaE) : List Value := [.slice x.a x.l.length x.c]
theorem liesWa : own.Lies encWa 1 := ⟨fun _ => rfl, by
  intro x u hu
  simp [encWa] at hu
  rw [hu]; rfl, by omega⟩
theorem infoWa : (Try.prog.info? 47).map (fun i => (i.zero, i.size, i.bytes)) = some (some (.slice none 0 0), 1, 24) := by kernel_rfl
abbrev RowWa (N : Nat) (ao : Option Addr) (cap : Nat) (xs : List WaE) (w : World) : Prop := RowOf encWa 1 47 N ao cap xs w
theorem rows_apart {α β : Type} {e1 : α → List Value} {e2 : β → List Value} {s1 s2 E1 E2 B1 B2 : Nat} {a1 a2 : Option Addr} {c1 c2 : Nat} {xs1 : List α} {xs2 : List β} {w : World} (h1 : RowOf e1 s1 E1 B1 a1 c1 xs1 w) (h2 : RowOf e2 s2 E2 B2 a2 c2 xs2 w) (hne : E2 ≠ E1) : ∀ g, a2 = some g → ¬ RowAt a1 g.block := by
  intro g hg
  rcases h2.2 with ⟨hh, _⟩ | ⟨g', cap', cur, hv, _, hbb, _⟩
  · simp only [Value.slice.injEq] at hh
    rw [hh.1] at hg; cases hg
  · simp only [Value.slice.injEq] at hv
    rw [hv.1] at hg
    cases hg
    exact row_apart h1 hbb hne
theorem row_low {α : Type} {enc : α → List Value} {s E B B' : Nat} {ao : Option Addr} {cap : Nat} {xs : List α} {w : World} (h : RowOf enc s E B' ao cap xs w) (hB : B ≤ B') : RowOf enc s E B ao cap xs w := by
  obtain ⟨r1, r2⟩ := h
  refine ⟨r1, ?_⟩
  rcases r2 with r2 | ⟨g, cap', cur, hv, hb, rest⟩
  · exact .inl r2
  · exact .inr ⟨g, cap', cur, hv, Nat.le_trans hB hb, rest⟩
section
variable {b pm N : Nat} {sl : List Sl} {ps : List Pc} {gen low : Int} {zo wo wo' : Option Addr} {zc wc wc' : Nat} {zs : List Pd} {ts : List WaE} {Q S : Nat → Prop} {w0 w w' w7 w8 : World}
theorem Lg.touch (h : Lg b pm N sl ps gen low Q w0 w) (o : Only S w w') (hS : ∀ k, S k → Q k ∧ w0.heap.size ≤ k) : Lg b pm N sl ps gen low (fun q => Q q ∨ (w.heap.size ≤ q ∧ q < w'.heap.size)) w0 w' := ⟨h.bs.touch o hS, h.ct, h.ads, h.few, h.pn⟩
theorem Lg.told (h : Lg b pm N sl ps gen low Q w0 w) (hsl : sl.length ≤ 100) {p : Pc} (hp : p ∈ ps) (g : Int) : Calls Try.prog 13 #[.pointer (some ⟨b, 0, none⟩), .string p.nm.s, .int .i64 p.nm.a, .int .i64 g] w fun e w' => ∃ a c, e = .returned (.slice a (tells sl p g).length c) ∧ RowN w.heap.size a c (tells sl p g) w' ∧ Only (fun _ => False) w w' := by
  obtain ⟨so, sc, np, Dp, h1, _⟩ := h.bs
  have hc := told_any h1 hp g
  have hl : (p.st.L.filter (liveE sl g)).length ≤ 100 := Nat.le_trans (List.length_filter_le _ _) (Nat.le_trans (h.few p hp) hsl)
  rw [List.take_of_length_le hl] at hc
  refine hc.mono ?_
  rintro e w' ⟨a, c, rfl, h2, h3⟩
  exact ⟨a, c, by unfold tells; rw [List.length_map], h2, h3⟩
/-- What was told so far, beside the base. -/
structure Tw (b pm N : Nat) (sl : List Sl) (ps : List Pc) (gen low : Int) (zo : Option Addr) (zc : Nat) (zs : List Pd) (Q : Nat → Prop) (ts : List WaE) (wo : Option Addr) (wc : Nat) (w0 w : World) : Prop where
  lg : Lg b pm N sl ps gen low Q w0 w
  row : RowWa w0.heap.size wo wc ts w
  rq : ∀ g, wo = some g → Q g.block
  zr : RowPd w0.heap.size zo zc zs w
  zq : ∀ g, zo = some g → Q g.block
  ns : ∀ x ∈ ts, RowN w0.heap.size x.a x.c x.l w ∧ ∀ g, x.a = some g → Q g.block
  tz : ∀ (i : Nat) (x : WaE), ts[i]? = some x → ∃ p ∈ ps, zs[i]? = some (pdF p) ∧ x.l = tells sl p gen
theorem Tw.later (h : Tw b pm N sl ps gen low zo zc zs Q ts wo wc w0 w) (o : Only (fun _ => False) w w') : Tw b pm N sl ps gen low zo zc zs Q ts wo wc w0 w' :=
  ⟨h.lg.later o, h.row.only o (fun _ _ e => e), h.rq, h.zr.only o (fun _ _ e => e), h.zq, fun x hx => ⟨(h.ns x hx).1.only o (fun _ _ e => e), (h.ns x hx).2⟩, h.tz⟩
theorem Tw.start (h : Lg b pm N sl ps gen low Q w0 w) (o : Only (fun _ => False) w w') (hz : RowPd (w.heap.size + 1) zo zc zs w') : ∃ Q ts, ts.length = 0 ∧ Tw b pm N sl ps gen low zo zc zs Q ts none 0 w0 w' :=
  ⟨_, [], rfl, ⟨h.touch o (fun k hk => hk.elim), RowOf.nil _ _ _ _ _, fun g hg => (by cases hg), row_low hz (by have := h.bs.since.size; omega), fun g hg => .inr ⟨by have := (hz.head g hg).2.1; omega, (hz.head g hg).2.2⟩, fun x hx => (by simp at hx), fun i x hx => (by simp at hx)⟩⟩
theorem Tw.step {a : Option Addr} {c : Nat} {p : Pc} {tl : List Int} (htl : tl = tells sl p gen) (h : Tw b pm N sl ps gen low zo zc zs Q ts wo wc w0 w) (hp : p ∈ ps) (hz : zs[ts.length]? = some (pdF p)) (o : Only (fun _ => False) w w7) (hn : RowN w.heap.size a c tl w7) (hrow : RowWa w0.heap.size wo' wc' (ts ++ [⟨a, tl, c⟩]) w8) (ho : Only (RowAt wo) w7 w8) (hnew : NewRow w7.heap.size wo wo') :
    Tw b pm N sl ps gen low zo zc zs (fun q => Q q ∨ (w.heap.size ≤ q ∧ q < w8.heap.size)) (ts ++ [⟨a, tl, c⟩]) wo' wc' w0 w8 := by
  have oo : Only (RowAt wo) w w8 := (o.mono (fun _ _ e => e.elim)).same ho
  have h0 := h.lg.bs.since.size
  have h7 := o.size
  have h8 := ho.size
  refine ⟨h.lg.touch oo (fun k hk => ?_), hrow, fun g hg => ?_, h.zr.only oo (rows_apart h.row h.zr (by decide)), fun g hg => .inl (h.zq g hg), fun x hx => ?_, fun i x hx => ?_⟩
  · obtain ⟨g, hg, rfl⟩ := hk
    exact ⟨h.rq g hg, (h.row.head g hg).2.1⟩
  · rcases hnew g hg with e | e
    · exact .inl (h.rq g e)
    · exact .inr ⟨by omega, (hrow.head g hg).2.2⟩
  · rcases List.mem_append.1 hx with hx | hx
    · exact ⟨(h.ns x hx).1.only oo (rows_apart h.row (h.ns x hx).1 (by decide)), fun g hg => .inl ((h.ns x hx).2 g hg)⟩
    · rw [List.mem_singleton.1 hx]
      exact ⟨(row_low hn h0).only ho (rows_apart (h.row.only o (fun _ _ e => e)) hn (by decide)), fun g hg => .inr ⟨(hn.head g hg).2.1, by have := (hn.head g hg).2.2; omega⟩⟩
  · by_cases hi : i < ts.length
    · rw [List.getElem?_append_left hi] at hx
      exact h.tz i x hx
    · have hi' := (List.getElem?_eq_some_iff.1 hx).1
      rw [List.length_append, List.length_singleton] at hi'
      have : i = ts.length := by omega
      subst this
      rw [List.getElem?_append_right (Nat.le_refl _), Nat.sub_self] at hx
      simp at hx
      subst hx
      exact ⟨p, hp, hz, htl⟩
end
/-- What was told, and the base behind further calls. -/
structure Mo (b pm n : Nat) (sl : List Sl) (ps : List Pc) (gen : Int) (zo : Option Addr) (zc : Nat) (zs : List Pd) (Q : Nat → Prop) (ts : List WaE) (wo : Option Addr) (wc : Nat) (w0 w : World) : Prop where
  lg : ∃ N' sl' ps' gen' low', Lg b pm N' sl' ps' gen' low' Q w0 w ∧ Kee sl ps gen sl' ps' gen' ∧ N' ≤ 2 * n ∧ sl'.length ≤ n
  row : RowWa w0.heap.size wo wc ts w
  rq : ∀ g, wo = some g → Q g.block
  zr : RowPd w0.heap.size zo zc zs w
  zq : ∀ g, zo = some g → Q g.block
  ns : ∀ x ∈ ts, RowN w0.heap.size x.a x.c x.l w ∧ ∀ g, x.a = some g → Q g.block
  tz : ∀ (i : Nat) (x : WaE), ts[i]? = some x → ∃ p ∈ ps, zs[i]? = some (pdF p) ∧ x.l = tells sl p gen
section
variable {b pm n N : Nat} {sl : List Sl} {ps : List Pc} {gen low : Int} {zo wo wo' : Option Addr} {zc wc wc' : Nat} {zs : List Pd} {ts : List WaE} {Q S : Nat → Prop} {w0 w w' w7 w8 : World}
theorem Tw.mo (h : Tw b pm N sl ps gen low zo zc zs Q ts wo wc w0 w) (hN : N ≤ 2 * n) (hsl : sl.length ≤ n) : Mo b pm n sl ps gen zo zc zs Q ts wo wc w0 w :=
  ⟨⟨N, sl, ps, gen, low, h.lg, Kee.refl _ _ _, hN, hsl⟩, h.row, h.rq, h.zr, h.zq, h.ns, h.tz⟩
theorem Mo.since (h : Mo b pm n sl ps gen zo zc zs Q ts wo wc w0 w) : Only (fun _ => False) w0 w := by
  obtain ⟨N', sl', ps', gen', low', h1, _⟩ := h.lg
  exact h1.bs.since
theorem Mo.later (h : Mo b pm n sl ps gen zo zc zs Q ts wo wc w0 w) (o : Only (fun _ => False) w w') : Mo b pm n sl ps gen zo zc zs Q ts wo wc w0 w' := by
  obtain ⟨N', sl', ps', gen', low', h1, h2⟩ := h.lg
  exact ⟨⟨N', sl', ps', gen', low', h1.later o, h2⟩, h.row.only o (fun _ _ e => e), h.rq, h.zr.only o (fun _ _ e => e), h.zq, fun x hx => ⟨(h.ns x hx).1.only o (fun _ _ e => e), (h.ns x hx).2⟩, h.tz⟩
theorem Mo.gon {N' : Nat} {sl' : List Sl} {ps' : List Pc} {gen' : Int} (h : Mo b pm n sl ps gen zo zc zs Q ts wo wc w0 w) (hk : Kee sl ps gen sl' ps' gen') (hN : N' ≤ 2 * n) (hsl : sl'.length ≤ n) (hg : Gon b pm N' sl' ps' gen' Q w0 w w') : Mo b pm (n + 1) sl ps gen zo zc zs Q ts wo wc w0 w' := by
  obtain ⟨N2, sl2, ps2, gen2, low2, h1, h2, h3, h4⟩ := hg.lg
  have o := hg.o
  exact ⟨⟨N2, sl2, ps2, gen2, low2, h1, hk.trans h2, by omega, by omega⟩, h.row.only o (fun g hg e => e.2 (h.rq g hg)), h.rq, h.zr.only o (fun g hg e => e.2 (h.zq g hg)), h.zq, fun x hx => ⟨(h.ns x hx).1.only o (fun g hg e => e.2 ((h.ns x hx).2 g hg)), (h.ns x hx).2⟩, h.tz⟩
theorem Mo.add (h : Mo b pm n sl ps gen zo zc zs Q ts wo wc w0 w) (hn : n ≤ 1000) (x : BO) (hx : x.Ok w0) (hf : x.Fine) : Calls Try.prog 9 #[.pointer (some ⟨b, 0, none⟩), .agg #[.int .i64 x.t.k, .int .i64 x.t.n, .string x.t.s, .slice x.ao x.t.l.length x.cap, .slice x.go x.gs.length x.gc, .int .i64 x.v], .slice x.co x.is.length x.cc, .bool x.f] w fun e w' => (∃ i e', e = .returned (.tuple #[.int .i64 i, .int .i64 e'])) ∧ Mo b pm (n + 1) sl ps gen zo zc zs Q ts wo wc w0 w' := by
  obtain ⟨N', sl', ps', gen', low', h1, h2, h3, h4⟩ := h.lg
  refine (h1.add x.t x.ao x.cap x.v hx.t hx.r (by have := hf.t; omega) x.go x.gs x.gc (hx.g.sized hf.gs) (by have := hf.g; omega) x.co x.cc x.is hx.c0 hx.c hx.cb (by have := hf.c; omega) x.f (by omega) (by omega)).mono ?_
  rintro e w' ⟨he, hg⟩
  exact ⟨he, h.gon h2 h3 h4 hg⟩
theorem Mo.kill (h : Mo b pm n sl ps gen zo zc zs Q ts wo wc w0 w) (hn : n ≤ 1000) (m : Int) : Calls Try.prog 10 #[.pointer (some ⟨b, 0, none⟩), .int .i64 m] w fun e w' => (∃ e', e = .returned (.int .i64 e')) ∧ Mo b pm (n + 1) sl ps gen zo zc zs Q ts wo wc w0 w' := by
  obtain ⟨N', sl', ps', gen', low', h1, h2, h3, h4⟩ := h.lg
  refine (h1.kill m (by omega)).mono ?_
  rintro e w' ⟨he, hg⟩
  exact ⟨he, h.gon h2 h3 h4 hg⟩
/-- .. the same is told again. -/
theorem Mo.told (h : Mo b pm n sl ps gen zo zc zs Q ts wo wc w0 w) (hn : n ≤ 100) {p : Pc} (hp : p ∈ ps) : Calls Try.prog 13 #[.pointer (some ⟨b, 0, none⟩), .string p.nm.s, .int .i64 p.nm.a, .int .i64 gen] w fun e w' => ∃ a c, e = .returned (.slice a (tells sl p gen).length c) ∧ RowN w.heap.size a c (tells sl p gen) w' ∧ Only (fun _ => False) w w' := by
  obtain ⟨N', sl', ps', gen', low', h1, h2, h3, h4⟩ := h.lg
  obtain ⟨p', hp', hnm, ht⟩ := h2.p p hp
  have := h1.told (by omega) hp' gen
  rwa [hnm, ht gen (Int.le_refl _)] at this
end
set_option maxHeartbeats 16000000 in
theorem law_stays (a1 : Option Addr) (p1 : Nat) (l1 : List BO) (a2 : Option Addr) (p2 : Nat) (l2 : List BO) (w : World) (hA1 : ArgBO a1 l1 w) (hA2 : ArgBO a2 l2 w) (hm1 : l1.length ≤ maxLen) (hm2 : l2.length ≤ maxLen)
    (HPR : Hid (∀ (b pm N : Nat) (sl : List Sl) (ps : List Pc) (lim gen low : Int) (so : Option Addr) (sc np : Nat) (Dp : D3) (W : World), BI b pm N sl ps lim gen low so sc np Dp W → ps.length ≤ 1000 → Calls Try.prog 12 #[.pointer (some ⟨b, 0, none⟩)] W fun e w' => ∃ ao cap zs, e = .returned (.slice ao zs.length cap) ∧ (ps.map pdF).Perm zs ∧ RowPd (W.heap.size + 1) ao cap zs w' ∧ Only (fun _ => False) W w')) :
    Calls Try.prog 3 #[.slice a1 l1.length p1, .slice a2 l2.length p2] w fun e w' => e = .returned (.bool true) ∧ Below w.heap.size w w' := by
  have HL1 := Lib.hid (larges_any a1 p1 l1 w w hA1 (Only.refl _ _) hm1)
  have HL2 : Hid (∀ W, Only (fun _ => False) w W → Calls Try.prog 6 #[.slice a2 l2.length p2] W fun e w' => ∃ r, e = .returned (.bool r) ∧ Only (fun _ => False) W w' ∧ (r = false → ∀ i x, i < 60 → l2[i]? = some x → x.Fine)) := Lib.hid (fun W o => larges_any a2 p2 l2 w W hA2 o hm2)
  have HA1 := Lib.hid hA1
  have HA2 := Lib.hid hA2
  unfold maxLen at hm1 hm2
  clear hA1 hA2
  go_enter Try.func3, Try.ntmps3
  go_wp2_with fail
  refine HL1.out.mono ?_
  rintro e w1 ⟨r1, rfl, ho1, hf1⟩
  have HO1 := Lib.hid ho1
  have HF1 := Lib.hid hf1
  have HLL := Lib.hid (HL2.out w1 ho1)
  clear ho1 hf1 HL1 HL2
  cases r1 with
  | true =>
    go_wp2_with fail
    refine (lives_any _).mono ?_
    rintro e w2 ⟨rfl, ho2⟩
    go_wp2_with fail
    go_ret
    exact ⟨rfl, (HO1.out.same ho2).to_below⟩
  | false =>
    go_wp2_with fail
    refine HLL.out.mono ?_
    rintro e w2 ⟨r2, rfl, ho2, hf2⟩
    have HO2 := Lib.hid (HO1.out.same ho2)
    have HF2 := Lib.hid hf2
    clear ho2 hf2 HLL HO1
    cases r2 with
    | true =>
      go_wp2_with fail
      refine (lives_any _).mono ?_
      rintro e w3 ⟨rfl, ho3⟩
      go_wp2_with fail
      go_ret
      exact ⟨rfl, (HO2.out.same ho3).to_below⟩
    | false =>
      have HNW := Lib.hid (new_base 16384 w2 (by decide) (by decide))
      go_wp2_with fail
      refine HNW.out.mono ?_
      rintro e w3 ⟨rfl, hb3, ho3⟩
      have HS3 : Hid (Sg (w2.heap.size + 1) 0 w2 w3) := Lib.hid (Sg.start rfl rfl hb3 ho3)
      clear hb3 ho3 HNW
      generalize w2.heap.size + 1 = b at *
      go_wp2_with fail
      refine (lives_any _).mono ?_
      rintro e w4 ⟨rfl, ho4⟩
      have HS4 := Lib.hid (HS3.out.later ho4)
      clear ho4 HS3
      go_wp2_with fail
      go_loopw [7] (fun i wr => ∃ k : Nat, i = .int .i64 k ∧ k ≤ l1.length ∧ k ≤ 40 ∧ Hid (Sg b k w2 wr)) (fun i _ => l1.length - (RowKit.intOf i).toNat)
      case atStart => exact ⟨0, rfl, Nat.zero_le _, Nat.zero_le _, HS4⟩
      case round =>
        obtain ⟨k, rfl, hk, hk40, hR⟩ := hrel
        by_cases hlt : k < l1.length ∧ k < 40
        · obtain ⟨hk1, hk2⟩ := hlt
          obtain ⟨x, hx⟩ : ∃ x, l1[k]? = some x := ⟨l1[k], List.getElem?_eq_getElem hk1⟩
          obtain ⟨ab, off, hao, hok, ⟨c0, c1, c2, c3, c4⟩, c5, c6, c7, c8, c9⟩ := arg_bo HA1.out (HO2.out.same hR.out.since) hx
          have HXF := Lib.hid (HF1.out trivial k x (by omega) hx)
          have hwj : IntKind.i64.wrap ((k : Int) + 1) = ((k + 1 : Nat) : Int) := by rw [IntWalk.i64_in _ (by omega)]; omega
          subst hao
          clear hx
          by_cases hkk : x.k = 1
          · have hk1' : (x.k == 1) = true := by simp [hkk]
            have HAD : Hid (∀ W, Only (fun _ => False) wr W → Calls Try.prog 9 #[.pointer (some ⟨b, 0, none⟩), .agg #[.int .i64 x.t.k, .int .i64 x.t.n, .string x.t.s, .slice x.ao x.t.l.length x.cap, .slice x.go x.gs.length x.gc, .int .i64 x.v], .slice x.co x.is.length x.cc, .bool x.f] W fun e w' => (∃ i e', e = .returned (.tuple #[.int .i64 i, .int .i64 e'])) ∧ Sg b (k + 1) w2 w') := Lib.hid (fun W o => (hR.out.later o).add (by omega) x (hok.later HO2.out) HXF.out)
            go_upto_region 10 with fail
            have oD : Only (fun _ => False) wr wr.drew := Only.drew _ _
            go_still_tail 16, (by kernel_rfl)
            change wpList _ _ _ _ _ wr.drew
            go_wp2_with fail
            refine (HAD.out _ oD).mono ?_
            rintro e w6 ⟨⟨i6, e6, rfl⟩, hs6⟩
            have HS6 := Lib.hid hs6
            clear hs6 HAD c0 c1 c2 c3 c4 c5 c6 c7 c8 c9 oD
            go_wp2_with fail
            go_roundw
            case rel => exact ⟨k + 1, by go_num, by omega, by omega, HS6⟩
            case measure => simp [RowKit.intOf]; omega
          · have hk1' : (x.k == 1) = false := by simp [hkk]
            have HKL := Lib.hid (hR.out.kill (by omega) x.n)
            go_wp2_with fail
            refine HKL.out.mono ?_
            rintro e w6 ⟨⟨e', rfl⟩, hs6⟩
            have HS6 := Lib.hid hs6
            clear hs6 HKL c0 c1 c2 c3 c4 c5 c6 c7 c8 c9
            go_wp2_with fail
            go_roundw
            case rel => exact ⟨k + 1, by go_num, by omega, by omega, HS6⟩
            case measure => simp [RowKit.intOf]; omega
        · have HS5 : Hid (Sg b 40 w2 wr) := Lib.hid (by
            obtain ⟨pm, N, sl, ps, gen, low, h1, h2, h3⟩ := hR.out
            exact ⟨pm, N, sl, ps, gen, low, h1, by omega, by omega⟩)
          have hx : ¬ k < l1.length ∨ (k < l1.length ∧ ¬ k < 40) := by omega
          clear hlt hk hk40 hR
          rcases hx with hx | ⟨hx, hx2⟩
          all_goals
            go_wp2_with fail
            obtain ⟨pm, N, sl, ps, gen, low, hLg, hN, hsl⟩ := HS5.out
            have HLg := Lib.hid hLg
            have HNN := Lib.hid (And.intro hN hsl)
            have HGN : Hid (Calls Try.prog 11 #[.pointer (some ⟨b, 0, none⟩)] wr fun e w' => e = .returned (.int .i64 gen) ∧ w' = wr) := Lib.hid (by obtain ⟨so, sc, np, Dp, h1, _⟩ := hLg.bs; exact gen_any h1)
            have HPC : Hid (Calls Try.prog 12 #[.pointer (some ⟨b, 0, none⟩)] wr fun e w' => ∃ ao cap zs, e = .returned (.slice ao zs.length cap) ∧ (ps.map pdF).Perm zs ∧ RowPd (wr.heap.size + 1) ao cap zs w' ∧ Only (fun _ => False) wr w') := Lib.hid (by obtain ⟨so, sc, np, Dp, h1, _⟩ := hLg.bs; exact HPR.out b pm N sl ps 16384 gen low so sc np Dp wr h1 (by have := hLg.pn; omega))
            clear hLg hN hsl HS5 hx
            refine HGN.out.mono ?_
            rintro e u ⟨rfl, hu⟩
            obtain rfl : wr = u := hu.symm
            go_wp2_with fail
            refine HPC.out.mono ?_
            rintro e w7 ⟨zo, zc, zs, rfl, hperm, hzr, hzo⟩
            have HPM := Lib.hid hperm
            have HZR := Lib.hid hzr
            have HZO := Lib.hid hzo
            clear hperm hzr hzo HGN HPC
            go_wp2_with fail
            obtain ⟨ww, rfl⟩ : ∃ ww : World, ww = wr := ⟨_, rfl⟩
            have HTW : Hid (∃ Q ts, ts.length = 0 ∧ Tw b pm N sl ps gen low zo zc zs Q ts none 0 w2 w7) := Lib.hid (Tw.start HLg.out HZO.out HZR.out)
            have HSL : Hid (sl.length ≤ 100) := Lib.hid (by have := HNN.out.2; omega)
            have HZL : Hid (zs.length ≤ 40) := Lib.hid (by have h1 := HPM.out.length_eq; have h2 := HLg.out.pn; have h3 := HNN.out.2; rw [List.length_map] at h1; omega)
            have HPS : Hid (∀ z ∈ zs, ∃ p ∈ ps, z = pdF p) := Lib.hid (fun z hz => by
              obtain ⟨p, hp, e⟩ := List.mem_map.1 (HPM.out.mem_iff.2 hz)
              exact ⟨p, hp, e.symm⟩)
            clear HZR HPM HZO HLg
            obtain ⟨i0, hi0, hz0, hz1, hz2⟩ := info_parts infoWa
            go_loopw [10, 11] (fun s10 s11 wq => ∃ (j : Nat) (wo : Option Addr) (wc : Nat), s10 = .slice wo j wc ∧ s11 = .int .i64 j ∧ j ≤ zs.length ∧ Hid (∃ Q ts, ts.length = j ∧ Tw b pm N sl ps gen low zo zc zs Q ts wo wc w2 wq)) (fun _ s11 _ => zs.length - (RowKit.intOf s11).toNat)
            case atStart => exact ⟨0, none, 0, rfl, rfl, Nat.zero_le _, HTW⟩
            case round =>
              obtain ⟨j, wo, wc, rfl, rfl, hj, hT⟩ := hrel
              by_cases hlt : j < zs.length
              · obtain ⟨Q, ts, htl, hTw⟩ := hT.out
                obtain ⟨z, hz⟩ : ∃ z, zs[j]? = some z := ⟨zs[j], List.getElem?_eq_getElem hlt⟩
                obtain ⟨p, hp, rfl⟩ := HPS.out z (List.mem_of_getElem? hz)
                obtain ⟨zg, rfl, _, hzc⟩ := hTw.zr.at liesPd j _ hz
                have hzb := (hTw.zr.head _ rfl).2.2
                have HTT := Lib.hid hTw
                have HZC : Hid (∀ W : World, W.heap[zg]? = wr.heap[zg]? → W.cell? ⟨zg, j * 3, none⟩ = some (.string p.nm.s) ∧ W.cell? ⟨zg, j * 3 + 1, none⟩ = some (.int .i64 p.nm.a) ∧ W.cell? ⟨zg, j * 3 + 2, none⟩ = some (.int .i64 p.lv)) := Lib.hid (fun W e => by
                  have key : ∀ m, W.cell? ⟨zg, m, none⟩ = wr.cell? ⟨zg, m, none⟩ := fun m => by unfold World.cell?; rw [e]
                  exact ⟨(key _).trans (hzc 0 (by decide)).1, (key _).trans (hzc 1 (by decide)).1, (key _).trans (hzc 2 (by decide)).1⟩)
                have HTA : Hid (Calls Try.prog 13 #[.pointer (some ⟨b, 0, none⟩), .string p.nm.s, .int .i64 p.nm.a, .int .i64 gen] wr.drew fun e w' => ∃ a c, e = .returned (.slice a (tells sl p gen).length c) ∧ RowN wr.heap.size a c (tells sl p gen) w' ∧ Only (fun _ => False) wr w') := Lib.hid (((hTw.lg.later (Only.drew _ _)).told HSL.out hp gen).mono (fun e w' ⟨a, c, h1, h2, h3⟩ => ⟨a, c, h1, h2, (Only.drew _ _).same h3⟩))
                have HCT : Hid (p.lv = ((tells sl p gen).length : Int)) := Lib.hid (by unfold tells; rw [List.length_map]; exact hTw.lg.ct p hp)
                have HPP := Lib.hid hp
                have HZZ := Lib.hid hz
                have HTL := Lib.hid htl
                have HJL := Lib.hid hlt
                obtain ⟨c0, c1, c2⟩ := HZC.out wr.drew rfl
                clear hTw htl hp hz hzc hzb hT
                obtain ⟨tl, htl⟩ : ∃ tl, tl = tells sl p gen := ⟨_, rfl⟩
                rw [← htl] at HTA HCT
                have HTE := Lib.hid htl
                clear htl
                go_upto_region 18 with fail
                go_region_law (first
                  | (refine step_callTo rfl 13 #[.pointer (some ⟨b, 0, none⟩), .string p.nm.s, .int .i64 p.nm.a, .int .i64 gen] ?_ _ HTA.out ?_
                     · go_simp
                     rintro e w8 ⟨a8, c8, rfl, hn8, ho8⟩
                     refine ⟨_, rfl, ?_⟩
                     have HN8 := Lib.hid hn8
                     have HO8 := Lib.hid ho8
                     clear hn8 ho8)
                  | (refine step_one liesWa (by rfl) (.tmp 85) (.tmp 99) 46 (by rfl) w2.heap.size 47 i0 _ 24 Try.underlying46 hi0 hz0 hz1 hz2 rfl (by omega) (w8.alloc (.cells #[.slice a8 tl.length c8] 47)) wo wc ts ⟨a8, tl, c8⟩ [.slice a8 tl.length c8] rfl (by rw [HTL.out]; rfl) (HTT.out.row.only (HO8.out.same (Only.alloc _ _ _)) (fun _ _ e => e)) w8.heap.size 47 (heap_alloc_new w8 _) (by rfl) (by rw [HTL.out]; have := HZL.out; have := HJL.out; omega) (Nat.le_trans HTT.out.lg.bs.since.size (HO8.out.same (Only.alloc _ _ _)).size) ?_
                     intro wo' wc' w10 hrow10 ho10 hnew10
                     rw [HTL.out]
                     have HT2 := Lib.hid (HTT.out.step HTE.out HPP.out (by rw [HTL.out]; exact HZZ.out) (HO8.out.same (Only.alloc _ _ _)) (HN8.out.only (Only.alloc (fun _ => False) _ _) (fun _ _ e => e)) hrow10 ho10 hnew10)
                     have hze : w10.heap[zg]? = wr.heap[zg]? := ((HO8.out.same (Only.alloc _ w8 (.cells #[.slice a8 tl.length c8] 47))).mono (S' := RowAt wo) (fun _ _ e => e.elim) |>.same ho10).block zg (HTT.out.zr.head _ rfl).2.2 (rows_apart HTT.out.row HTT.out.zr (by decide) _ rfl)
                     have HZ10 := Lib.hid hze
                     clear hrow10 ho10 hnew10 hze))
                all_goals
                  obtain ⟨z0, z1, z2⟩ := HZC.out w10 HZ10.out
                  obtain ⟨gw, hgw, _, hwc⟩ := HT2.out.row.at liesWa j ⟨a8, tl, c8⟩ (by rw [← HTL.out]; simp)
                  have hw0 : w10.cell? ⟨gw, j, none⟩ = some (.slice a8 tl.length c8) := by have := (hwc 0 (by decide)).1; rw [Nat.mul_one, Nat.add_zero] at this; exact this
                  have hne : (((tl.length : Int) != p.lv) : Bool) = false := by rw [HCT.out]; simp
                  have hwj : IntKind.i64.wrap ((j : Int) + 1) = ((j + 1 : Nat) : Int) := by have := HZL.out; rw [IntWalk.i64_in _ (by omega)]; omega
                  have hjj : j < j + 1 := by omega
                  have hji : (j : Int) < ((j + 1 : Nat) : Int) := by omega
                  have hge : (0 : Int) ≤ (j : Int) := by omega
                  have hjz : (j : Int) < (zs.length : Int) := by omega
                  subst hgw
                  clear hwc HZC
                  generalize hm : j + 1 = m at *
                  go_upto_region 19 with fail
                  go_quiet (fail)
                  go_wp2_with fail
                  go_roundw
                  case rel => exact ⟨m, _, _, rfl, by go_num, by omega, Lib.hid ⟨_, _, by rw [List.length_append, HTL.out]; exact hm, HT2.out.later (Only.drewN _ _ _)⟩⟩
                  case measure => simp [RowKit.intOf]; omega
              · obtain rfl : j = zs.length := by omega
                obtain ⟨Q, ts, htl, hTw⟩ := hT.out
                have HM0 : Hid (Mo b pm 40 sl ps gen zo zc zs Q ts wo wc w2 wr) := Lib.hid (hTw.mo (by have := HNN.out.1; omega) HNN.out.2)
                have HTL := Lib.hid htl
                clear hT htl hTw hj hlt HTW
                go_wp2_with fail
                obtain ⟨wx, rfl⟩ : ∃ wx : World, wx = wr := ⟨_, rfl⟩
                go_loopw [12] (fun i wr => ∃ k : Nat, i = .int .i64 k ∧ k ≤ l2.length ∧ k ≤ 40 ∧ Hid (Mo b pm (40 + k) sl ps gen zo zc zs Q ts wo wc w2 wr)) (fun i _ => l2.length - (RowKit.intOf i).toNat)
                case atStart => exact ⟨0, rfl, Nat.zero_le _, Nat.zero_le _, HM0⟩
                case round =>
                  obtain ⟨k2, rfl, hk2, hk42, hM⟩ := hrel
                  by_cases hlt : k2 < l2.length ∧ k2 < 40
                  · obtain ⟨hk21, hk22⟩ := hlt
                    obtain ⟨x, hx⟩ : ∃ x, l2[k2]? = some x := ⟨l2[k2], List.getElem?_eq_getElem hk21⟩
                    obtain ⟨ab, off, hao, hok, ⟨c0, c1, c2, c3, c4⟩, c5, c6, c7, c8, c9⟩ := arg_bo HA2.out (HO2.out.same hM.out.since) hx
                    have HXF := Lib.hid (HF2.out trivial k2 x (by omega) hx)
                    have hwj : IntKind.i64.wrap ((k2 : Int) + 1) = ((k2 + 1 : Nat) : Int) := by rw [IntWalk.i64_in _ (by omega)]; omega
                    subst hao
                    clear hx
                    by_cases hkk : x.k = 1
                    · have hk1' : (x.k == 1) = true := by simp [hkk]
                      have HAD : Hid (∀ W, Only (fun _ => False) wr W → Calls Try.prog 9 #[.pointer (some ⟨b, 0, none⟩), .agg #[.int .i64 x.t.k, .int .i64 x.t.n, .string x.t.s, .slice x.ao x.t.l.length x.cap, .slice x.go x.gs.length x.gc, .int .i64 x.v], .slice x.co x.is.length x.cc, .bool x.f] W fun e w' => (∃ i e', e = .returned (.tuple #[.int .i64 i, .int .i64 e'])) ∧ Mo b pm (40 + k2 + 1) sl ps gen zo zc zs Q ts wo wc w2 w') := Lib.hid (fun W o => (hM.out.later o).add (by omega) x (hok.later HO2.out) HXF.out)
                      go_upto_region 25 with fail
                      have oD : Only (fun _ => False) wr wr.drew := Only.drew _ _
                      go_still_tail 16, (by kernel_rfl)
                      change wpList _ _ _ _ _ wr.drew
                      go_wp2_with fail
                      refine (HAD.out _ oD).mono ?_
                      rintro e w6 ⟨⟨i6, e6, rfl⟩, hs6⟩
                      have HS6 := Lib.hid hs6
                      clear hs6 HAD c0 c1 c2 c3 c4 c5 c6 c7 c8 c9 oD
                      go_wp2_with fail
                      go_roundw
                      case rel => exact ⟨k2 + 1, by go_num, by omega, by omega, HS6⟩
                      case measure => simp [RowKit.intOf]; omega
                    · have hk1' : (x.k == 1) = false := by simp [hkk]
                      have HKL := Lib.hid (hM.out.kill (by omega) x.n)
                      go_wp2_with fail
                      refine HKL.out.mono ?_
                      rintro e w6 ⟨⟨e', rfl⟩, hs6⟩
                      have HS6 := Lib.hid hs6
                      clear hs6 HKL c0 c1 c2 c3 c4 c5 c6 c7 c8 c9
                      go_wp2_with fail
                      go_roundw
                      case rel => exact ⟨k2 + 1, by go_num, by omega, by omega, HS6⟩
                      case measure => simp [RowKit.intOf]; omega
                  · have HM1 : Hid (∃ n, n ≤ 80 ∧ Mo b pm n sl ps gen zo zc zs Q ts wo wc w2 wr) := Lib.hid ⟨40 + k2, by omega, hM.out⟩
                    have hx : ¬ k2 < l2.length ∨ (k2 < l2.length ∧ ¬ k2 < 40) := by omega
                    clear hlt hk2 hk42 hM
                    rcases hx with hx | ⟨hx, hx2⟩
                    all_goals
                      go_wp2_with fail
                      clear hx
                      obtain ⟨n, hn80, hMn⟩ := HM1.out
                      have HMN := Lib.hid hMn
                      clear hMn HM1
                      obtain ⟨wy, rfl⟩ : ∃ wy : World, wy = wr := ⟨_, rfl⟩
                      go_loopw [13] (fun i wr => ∃ j : Nat, i = .int .i64 j ∧ j ≤ zs.length ∧ Hid (Mo b pm n sl ps gen zo zc zs Q ts wo wc w2 wr)) (fun i _ => zs.length - (RowKit.intOf i).toNat)
                      case atStart => exact ⟨0, rfl, Nat.zero_le _, HMN⟩
                      case round =>
                        obtain ⟨j, rfl, hj, hV⟩ := hrel
                        by_cases hlt : j < zs.length
                        · obtain ⟨y, hy⟩ : ∃ y, ts[j]? = some y := ⟨ts[j]'(by rw [HTL.out]; exact hlt), List.getElem?_eq_getElem _⟩
                          obtain ⟨p, hp, hz, hyl⟩ := hV.out.tz j y hy
                          obtain ⟨zg, rfl, _, hzc⟩ := hV.out.zr.at liesPd j _ hz
                          obtain ⟨gw, rfl, _, hwc⟩ := hV.out.row.at liesWa j y hy
                          have HC : Hid (∀ W, Only (fun _ => False) wr W → (W.cell? ⟨zg, j * 3, none⟩ = some (.string p.nm.s) ∧ W.cell? ⟨zg, j * 3 + 1, none⟩ = some (.int .i64 p.nm.a)) ∧ W.cell? ⟨gw, j, none⟩ = some (.slice y.a y.l.length y.c)) := Lib.hid (fun W o => by
                            have key : ∀ g m, g < wr.heap.size → W.cell? ⟨g, m, none⟩ = wr.cell? ⟨g, m, none⟩ := fun g m hg => o.cell (p := ⟨g, m, none⟩) hg (fun e => e)
                            have k1 := (hV.out.zr.head _ rfl).2.2
                            have k2 := (hV.out.row.head _ rfl).2.2
                            have k3 := (hwc 0 (by decide)).1
                            rw [Nat.mul_one, Nat.add_zero] at k3
                            exact ⟨⟨(key _ _ k1).trans (hzc 0 (by decide)).1, (key _ _ k1).trans (hzc 1 (by decide)).1⟩, (key _ _ k2).trans k3⟩)
                          have HTA : Hid (∀ W, Only (fun _ => False) wr W → Calls Try.prog 13 #[.pointer (some ⟨b, 0, none⟩), .string p.nm.s, .int .i64 p.nm.a, .int .i64 gen] W fun e w' => ∃ a c, e = .returned (.slice a y.l.length c) ∧ NumsAt w' a y.l ∧ Only (fun _ => False) W w') := Lib.hid (fun W o => by
                            rw [hyl]
                            refine ((hV.out.later o).told (by omega) hp).mono ?_
                            rintro e w' ⟨a, c, h1, h2, h3⟩
                            exact ⟨a, c, h1, NumsAt.row h2, h3⟩)
                          have HYN : Hid (∀ W, Only (fun _ => False) wr W → NumsAt W y.a y.l) := Lib.hid (fun W o => NumsAt.row (((hV.out.ns y (List.mem_of_getElem? hy)).1).only o (fun _ _ e => e)))
                          have HYL : Hid (y.l.length ≤ 1000000) := Lib.hid (by
                            have := (HYN.out wr (Only.refl _ _))
                            obtain ⟨N', sl', ps', gen', low', g1, g2, g3, g4⟩ := hV.out.lg
                            obtain ⟨p', hp', hnm, ht⟩ := g2.p p hp
                            have h5 : y.l.length ≤ p'.st.L.length := by
                              rw [hyl, ← ht gen (Int.le_refl _)]
                              unfold tells
                              rw [List.length_map]
                              exact List.length_filter_le _ _
                            have h6 := g1.few p' hp'
                            omega)
                          have HSI : Hid (∀ a c W, NumsAt W a y.l → Only (fun _ => False) wr W → Calls Try.prog 14 #[.slice a y.l.length c, .slice y.a y.l.length y.c] W fun e w' => e = .returned (.bool true) ∧ Only (fun _ => False) W w') := Lib.hid (fun a c W h1 o => by
                            have := same_ints y.l y.l a y.a c y.c W h1 (HYN.out W o) HYL.out HYL.out
                            rwa [decide_eq_true rfl] at this)
                          have hwj : IntKind.i64.wrap ((j : Int) + 1) = ((j + 1 : Nat) : Int) := by have := HZL.out; rw [IntWalk.i64_in _ (by omega)]; omega
                          clear hy hp hz hyl hzc hwc
                          go_upto_region 30 with fail
                          go_cut [176] (fun s wx => s = .bool false ∧ Hid (Only (fun _ => False) wr wx))
                          case first =>
                            obtain ⟨⟨z0, z1⟩, z2⟩ := HC.out wr (Only.refl _ _)
                            go_region_held3 (fun W => (W.cell? ⟨zg, j * 3, none⟩ = some (.string p.nm.s) ∧ W.cell? ⟨zg, j * 3 + 1, none⟩ = some (.int .i64 p.nm.a)) ∧ W.cell? ⟨gw, j, none⟩ = some (.slice y.a y.l.length y.c)) (with_reducible first | exact HC.out _ HV3.out | exact HC.out _ HU3.out | exact HC.out _ (Only.drew _ _)) (first
                              | (go_at_call 13; (refine (HTA.out _ (Only.drew _ _)).mono ?_); rintro r u ⟨a8, c8, rfl, hn8, hou⟩; have HU3 : Hid (Only (fun _ => False) wr u) := Lib.hid ((Only.drew _ _).same hou); have HN8 := Lib.hid hn8; clear hou hn8)
                              | (go_at_call 14; (refine (HSI.out a8 c8 _ HN8.out HU3.out).mono ?_); rintro r u3 ⟨rfl, hou⟩; have HV3 : Hid (Only (fun _ => False) wr u3) := Lib.hid (HU3.out.same hou); clear hou))
                            all_goals
                              go_wp2_with fail
                              go_meet
                              exact ⟨rfl, HV3⟩
                          case rest =>
                            obtain ⟨rfl, HR⟩ := hcut
                            go_wp2_with fail
                            go_roundw
                            case rel => exact ⟨j + 1, by go_num, by omega, Lib.hid (hV.out.later HR.out)⟩
                            case measure => simp [RowKit.intOf]; omega
                        · go_wp2_with fail
                          go_ret
                          exact ⟨rfl, (HO2.out.same hV.out.since).to_below⟩
end Go.Proofs.Ythfilpacmllhpab.bases
