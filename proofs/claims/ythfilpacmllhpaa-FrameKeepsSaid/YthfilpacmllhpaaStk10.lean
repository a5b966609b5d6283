/- Environments and choices in memory: the last choice is told; it goes on with another one. -/
import Derived.Test.YthfilpacmllhpaaStk9
namespace Go.Proofs.Ythfilpacmllhpaa.stk
set_option maxRecDepth 100000
open Go.RowKit Go.Proofs.Ythfilpacmllhpaa.own
open Go.Proofs.Ythfilpacmllhpaa.rooms (RoomP IsRoom)
section
variable {b rb : Nat} {ao co : Option Addr} {cap cc : Nat} {most wl lim : Int} {s : St} {w w' : World}
theorem St.Ok.turn {s : St} (h : s.Ok) {l : List Cho} {d : Cho} (hl : s.cs = l ++ [d]) (x : Int) : St.Ok { s with cs := l ++ [{ d with n := x }] } := by
  have htop : topOf (l ++ [{ d with n := x }]) = topOf s.cs := by rw [hl, topOf_snoc, topOf_snoc]
  refine ⟨h.cur, apart_sub h.apart (fun f hf => ?_), fun c hc => ?_, ?_, ?_⟩
  · rcases List.mem_append.1 hf with hf | hf
    · exact List.mem_append_left _ hf
    · obtain ⟨c, hc, hf⟩ := List.mem_flatMap.1 hf
      refine List.mem_append_right _ (List.mem_flatMap.2 ?_)
      rcases List.mem_append.1 hc with hc | hc
      · exact ⟨c, by rw [hl]; exact List.mem_append_left _ hc, hf⟩
      · rw [List.mem_singleton.1 hc] at hf
        exact ⟨d, by rw [hl]; simp, hf⟩
  · rw [htop]
    rcases List.mem_append.1 hc with hc | hc
    · exact h.each c (by rw [hl]; exact List.mem_append_left _ hc)
    · rw [List.mem_singleton.1 hc]
      exact h.each d (by rw [hl]; simp)
  · have hm := h.mono
    rw [hl] at hm
    obtain ⟨m1, _, m3⟩ := List.pairwise_append.1 hm
    refine List.pairwise_append.2 ⟨m1, List.pairwise_singleton _ _, fun a ha e he => ?_⟩
    rw [List.mem_singleton.1 he]
    exact m3 a ha d (by simp)
  · show topOf (l ++ [_]) ≤ s.xs.length
    rw [htop]; exact h.tops
theorem turn_one (h : Stk b rb ao cap most co cc s wl lim w) {l : List Cho} {d : Cho} {n g p : Nat} {x : Int} (hl : s.cs = l ++ [d]) (hn : l.length = n) (hg : co = some ⟨g, 0, none⟩) (hp : w.cell? ⟨p, 0, none⟩ = some (.int .i64 x)) :
    Calls Try.prog 69 #[.pointer (some ⟨g, n * 9, none⟩), .pointer (some ⟨p, 0, none⟩)] w fun e w' => e = .returned (.tuple #[]) ∧ Stk b rb ao cap most co cc { s with cs := l ++ [{ d with n := x }] } wl lim w' ∧ Only (RowAt co) w w' := by
  have hd : s.cs[n]? = some d := by rw [hl, ← hn]; simp
  have HH := Lib.hid h
  have hrow := h.row
  subst hg
  obtain ⟨g', hg', _, hcells⟩ := hrow.at liesC n d hd
  obtain rfl : g = g' := by simpa using hg'
  have q5 := (hcells 5 (by decide)).1
  have f5 := (hcells 5 (by decide)).2
  simp only [encC, List.getElem?_cons_zero, List.getElem?_cons_succ] at q5
  have HST := Lib.hid (hrow.stored liesC n 5 d { d with n := x } (.int .i64 x) hd (by decide) rfl)
  have HL : Hid (s.cs.set n { d with n := x } = l ++ [{ d with n := x }]) := Lib.hid (by rw [hl, ← hn, List.set_append_right _ _ (Nat.le_refl _)]; simp)
  have HLN : Hid ((l ++ [{ d with n := x }]).length = s.cs.length) := Lib.hid (by rw [hl]; simp)
  have HHL := Lib.hid hl
  clear h hrow hcells hd hg' hn hl
  go_enter Try.func69, Try.ntmps69
  go_wp2
  go_end0
  obtain ⟨h1, h2⟩ := HST.out
  rw [HL.out] at h1
  generalize w.setCell ⟨g, n * 9 + 5, none⟩ (.int .i64 x) = w2 at *
  have hT : Only (RowAt (some ⟨g, 0, none⟩)) w w2 := h2.mono (fun k _ e => ⟨_, rfl, e⟩)
  refine ⟨rfl, ⟨?_, HH.out.room.only (toRooms hT) (fun k hk e => HH.out.b2 k hk e), h1, fun c hc => ?_, HH.out.b1, HH.out.b2, HH.out.ok.turn HHL.out x, HH.out.le, ?_⟩, hT⟩
  · show Box b rb (headB s.cur) _ (l ++ [{ d with n := x }]).length cc lim w2
    rw [HLN.out]
    exact HH.out.box.only hT (fun e => HH.out.b1.2 e)
  · have key : ∃ c0 ∈ s.cs, c.ao = c0.ao ∧ c.cap = c0.cap ∧ c.args = c0.args := by
      rcases List.mem_append.1 hc with hc | hc
      · exact ⟨c, by rw [HHL.out]; exact List.mem_append_left _ hc, rfl, rfl, rfl⟩
      · rw [List.mem_singleton.1 hc]
        exact ⟨d, by rw [HHL.out]; simp, rfl, rfl, rfl⟩
    obtain ⟨c0, hc0, e1, e2, e3⟩ := key
    obtain ⟨r1, r2⟩ := HH.out.args c0 hc0
    rw [e1, e2, e3]
    exact ⟨r1.only hT (fun g' hg' e => (r2 g' hg').2.2 e), r2⟩
  · have := HH.out.ch
    refine ⟨?_, this.2⟩
    show ((l ++ [{ d with n := x }]).length : Int) ≤ lim
    rw [HLN.out]; exact this.1
theorem Turn_some (h : Stk b rb ao cap most co cc s wl lim w) {l : List Cho} {d : Cho} (hl : s.cs = l ++ [d]) (x : Int) : Calls Try.prog 30 #[.pointer (some ⟨b, 0, none⟩), .int .i64 x] w fun e w' => e = .returned (.int .i64 0) ∧ Stk b rb ao cap most co cc { s with cs := l ++ [{ d with n := x }] } wl lim w' ∧ Only (RowAt co) w w' := by
  have hln : s.cs.length = l.length + 1 := by rw [hl]; simp
  obtain ⟨g, hg⟩ : ∃ g, co = some ⟨g, 0, none⟩ := by
    obtain ⟨g, hg, _⟩ := h.row.at liesC l.length d (by rw [hl]; simp)
    exact ⟨g, hg⟩
  have HO := Lib.hid (Only.alloc (fun _ => False) w (.cells #[.int .i64 x] 3))
  have hE := h.later HO.out
  have hp : (w.alloc (.cells #[.int .i64 x] 3)).cell? ⟨w.heap.size, 0, none⟩ = some (.int .i64 x) := by rw [cell_of_blk (heap_alloc_new w _)]; rfl
  have HW := Lib.hid (withLast_some (v := .pointer (some ⟨w.heap.size, 0, none⟩)) (Q := fun w' => Stk b rb ao cap most co cc { s with cs := l ++ [{ d with n := x }] } wl lim w' ∧ Only (RowAt co) w w') hE hln hg 69 (fun args W => by rfl) (Lib.hid (fun W o => by
    have hpW : W.cell? ⟨w.heap.size, 0, none⟩ = some (.int .i64 x) := (o.cell (p := ⟨w.heap.size, 0, none⟩) (by simp) (fun e => e)).trans hp
    refine (turn_one (hE.later o) hl rfl hg hpW).mono ?_
    rintro e w' ⟨rfl, h1, h2⟩
    exact ⟨rfl, h1, ((HO.out.same o).no _).same h2⟩)))
  clear h hl hln hg hE hp
  go_enter Try.func30, Try.ntmps30
  go_wp2_with fail
  refine HW.out.mono ?_
  rintro e u ⟨rfl, hq⟩
  have HQ := Lib.hid hq
  clear hq
  go_wp2_with fail
  go_ret
  exact ⟨rfl, HQ.out.1, HQ.out.2⟩
set_option maxHeartbeats 2000000 in
theorem Last_some (h : Stk b rb ao cap most co cc s wl lim w) {l : List Cho} {c : Cho} (hl : s.cs = l ++ [c]) (hal : c.args.length ≤ 16777216) : Calls Try.prog 22 #[.pointer (some ⟨b, 0, none⟩)] w fun e w' => ∃ ao' cap', e = .returned (.tuple #[.agg #[.int .i64 c.k, .slice ao' c.args.length cap', .int .i64 c.c, .int .i64 c.a, .int .i64 c.g, .int .i64 c.n, .int .i64 c.f, .int .i64 c.env, .int .i64 c.top], .bool true]) ∧ RowOf encW 1 35 w.heap.size ao' cap' c.args w' ∧ Only (fun _ => False) w w' := by
  have hln : s.cs.length = l.length + 1 := by rw [hl]; simp
  obtain ⟨E, hE⟩ : ∃ E, E = w.alloc (.cells #[.int .i64 0, .slice none 0 0, .int .i64 0, .int .i64 0, .int .i64 0, .int .i64 0, .int .i64 0, .int .i64 0, .int .i64 0] 34) := ⟨_, rfl⟩
  have HO : Hid (Only (fun _ => False) w E) := Lib.hid (by rw [hE]; exact Only.alloc _ _ _)
  have HZ : Hid (Nine w.heap.size (.int .i64 0) (.slice none 0 0) (.int .i64 0) (.int .i64 0) (.int .i64 0) (.int .i64 0) (.int .i64 0) (.int .i64 0) (.int .i64 0) E) := Lib.hid ⟨by rw [hE]; exact heap_alloc_new w _⟩
  have hE2 := h.later HO.out
  have hd := Depth_any hE2
  rw [hln] at hd
  have HD := Lib.hid hd
  have HCH := Lib.hid (Choice_yes hE2 l.length c (by rw [hl]; simp) hal)
  have hle : l.length + 1 ≤ 4095 := by have := h.ch; omega
  clear h hl hln hE2 hd
  generalize l.length = n at *
  generalize c.args.length = al at *
  generalize c.k = x0 at *
  generalize c.c = x2 at *
  generalize c.a = x3 at *
  generalize c.g = x4 at *
  generalize c.n = x5 at *
  generalize c.f = x6 at *
  generalize c.env = x7 at *
  generalize c.top = x8 at *
  go_enter Try.func22, Try.ntmps22
  go_upto_region 1 with fail
  rw [← hE]
  clear hE
  generalize hbk : w.heap.size = bk at *
  have HB := Lib.hid hbk
  clear hbk
  go_wp2_with fail
  refine HD.out.mono ?_
  rintro e u ⟨rfl, hu⟩
  obtain rfl : E = u := hu.symm
  go_wp2_with fail
  refine HCH.out.mono ?_
  rintro e w2 ⟨ao', cap', rfl, hr, ho⟩
  have HR2 := Lib.hid hr
  have HO2 := Lib.hid ho
  have HZ2 := Lib.hid (HZ.out.only ho (fun e => e))
  clear hr ho
  obtain ⟨d0, d1, d2, d3, d4, d5, d6, d7, d8⟩ := HZ2.out.cells
  have f0 := HZ2.out.fz 0
  have f1 := HZ2.out.fz 1
  have f2 := HZ2.out.fz 2
  have f3 := HZ2.out.fz 3
  have f4 := HZ2.out.fz 4
  have f5 := HZ2.out.fz 5
  have f6 := HZ2.out.fz 6
  have f7 := HZ2.out.fz 7
  have f8 := HZ2.out.fz 8
  go_wp2_with fail
  obtain ⟨h1, h2⟩ := HZ2.out.set (.int .i64 x0) (.slice ao' al cap') (.int .i64 x2) (.int .i64 x3) (.int .i64 x4) (.int .i64 x5) (.int .i64 x6) (.int .i64 x7) (.int .i64 x8)
  have hb := HB.out
  have hz := HZ.out.lt
  refine bodyPost_ret (v := .tuple #[.agg #[.int .i64 x0, .slice ao' al cap', .int .i64 x2, .int .i64 x3, .int .i64 x4, .int .i64 x5, .int .i64 x6, .int .i64 x7, .int .i64 x8], .bool true]) (results_cho2 rfl _ _ bk _ _ _ _ _ _ _ _ _ _ rfl rfl h1) rfl ⟨ao', cap', rfl, ?_, cut (HO.out.same HO2.out) h2 (fun k e => by omega)⟩
  exact RowOf.only (RowOf.lower HR2.out (by omega)) h2 (fun g hg => by have := (HR2.out.head g hg).2.1; omega)
end
end Go.Proofs.Ythfilpacmllhpaa.stk
