/- Environments and choices in memory: the last choice: Drop, Restore. -/
import Derived.Test.YthfilpacmllhpaaStk6
namespace Go.Proofs.Ythfilpacmllhpaa.stk
set_option maxRecDepth 100000
open Go.RowKit Go.Proofs.Ythfilpacmllhpaa.own
open Go.Proofs.Ythfilpacmllhpaa.rooms (RoomP IsRoom)
section
variable {b rb : Nat} {ao co : Option Addr} {cap cc : Nat} {most wl lim : Int} {s : St} {w w' : World}
theorem RowOf.beyond {α : Type} {enc : α → List Value} {s E B g cap : Nat} {xs : List α} {w : World} (L : Lies enc s) (h : RowOf enc s E B (some ⟨g, 0, none⟩) cap xs w) (j : Nat) (hj : xs.length * s ≤ j) (u : Value) :
    RowOf enc s E B (some ⟨g, 0, none⟩) cap xs (w.setCell ⟨g, j, none⟩ u) := by
  obtain ⟨r1, r2⟩ := h
  refine ⟨r1, ?_⟩
  rcases r2 with ⟨h0, _⟩ | ⟨g', cap', cur, hv, hb, hh, hn, hm, hsz, ht⟩
  · cases h0
  · cases hv
    refine .inr ⟨g, cap, cur.setIfInBounds j u, rfl, hb, blk_set hh j u, hn, hm, ?_, ?_⟩
    · rw [Array.size_setIfInBounds]; exact hsz
    · rw [← ht, Array.toList_setIfInBounds, List.take_set_of_le hj]
theorem withLast_none (h : Stk b rb ao cap most co cc s wl lim w) (hn : s.cs = []) (f : Value) : Calls Try.prog 50 #[.pointer (some ⟨b, 0, none⟩), f] w fun e w' => e = .returned (.int .i64 4) ∧ w' = w := by
  have HB := Lib.hid (closed_no h.box)
  have c2 := h.box.c2
  rw [hn, List.length_nil] at c2
  clear h hn
  go_enter Try.func50, Try.ntmps50
  go_wp2_with fail
  refine HB.out.mono ?_
  rintro e u ⟨rfl, hu⟩
  obtain rfl : w = u := hu.symm
  go_wp2_with fail
  go_ret
  exact ⟨rfl, rfl⟩
theorem withLast_some (h : Stk b rb ao cap most co cc s wl lim w) {n g : Nat} (hn : s.cs.length = n + 1) (hg : co = some ⟨g, 0, none⟩) (K : Nat) (v : Value) {Q : World → Prop} (HE : ∀ args W, (callFunc K args).run Try.prog W = .ok (.enter K args) W)
    (HK : Hid (∀ W, Only (fun _ => False) w W → Calls Try.prog K #[.pointer (some ⟨g, n * 9, none⟩), v] W fun e w' => e = .returned (.tuple #[]) ∧ Q w')) :
    Calls Try.prog 50 #[.pointer (some ⟨b, 0, none⟩), .func (.func K) #[] #[v]] w fun e w' => e = .returned (.int .i64 0) ∧ Q w' := by
  have HB := Lib.hid (closed_no h.box)
  have c2 := h.box.c2
  have HC : Hid (∀ W, Only (fun _ => False) w W → W.cell? ⟨b, 2, none⟩ = some (.slice (some ⟨g, 0, none⟩) (n + 1) cc)) := Lib.hid (fun W o => by
    have := (h.later o).box.c2
    rw [hn, hg] at this
    exact this)
  rw [hn, hg] at c2
  have hle : n + 1 ≤ 4095 := by have := h.ch; omega
  have hcap : n + 1 ≤ cc := by have := h.row.cap_ge; omega
  clear h hn hg
  have hw : IntKind.i64.wrap (n : Int) = (n : Int) := IntWalk.i64_in _ (by omega)
  have h0 : (0 : Int) ≤ (n : Int) := by omega
  have h1 : (n : Int) < (n : Int) + 1 := by omega
  go_enter Try.func50, Try.ntmps50
  go_wp2_with fail
  refine HB.out.mono ?_
  rintro e u ⟨rfl, hu⟩
  obtain rfl : w = u := hu.symm
  go_wp2_with fail
  go_still_tail 12, (by kernel_rfl)
  change wpList _ _ _ _ _ w.drew
  have HO : Hid (Only (fun _ => False) w w.drew) := Lib.hid (Only.drew _ _)
  generalize w.drew = W1 at *
  go_wp2_with fail
  refine (HK.out _ HO.out).mono ?_
  rintro e w2 ⟨rfl, hq⟩
  have HQ := Lib.hid hq
  clear hq
  go_wp2_with fail
  go_ret
  exact ⟨rfl, HQ.out⟩
theorem lt_of_cell? {W : World} {p : Addr} {x : Value} (h : W.cell? p = some x) : p.block < W.heap.size := by
  unfold World.cell? at h
  cases hb : W.heap[p.block]? with
  | none => simp [hb] at h
  | some o => exact (Array.getElem?_eq_some_iff.1 hb).1
set_option maxHeartbeats 4000000 in
theorem drop_one (h : Stk b rb ao cap most co cc s wl lim w) {n g p : Nat} (hn : s.cs.length = n + 1) (hg : co = some ⟨g, 0, none⟩) (hp : w.cell? ⟨p, 0, none⟩ = some (.pointer (some ⟨b, 0, none⟩))) (hpb : p ≠ b ∧ p ≠ g) :
    Calls Try.prog 51 #[.pointer (some ⟨g, n * 9, none⟩), .pointer (some ⟨p, 0, none⟩)] w fun e w' => e = .returned (.tuple #[]) ∧ Stk b rb ao cap most co cc { s with cs := s.cs.dropLast } wl lim w' ∧ Only (fun k => k = b ∨ RowAt co k) w w' := by
  have HH := Lib.hid h
  have HN := Lib.hid hn
  have HPB := Lib.hid hpb
  obtain ⟨d, hd⟩ : ∃ d, s.cs[n]? = some d := ⟨s.cs[n], List.getElem?_eq_getElem (by omega)⟩
  have hrow := h.row
  have hgb : g ≠ b := fun e => h.b1.2 ⟨⟨g, 0, none⟩, hg, e.symm⟩
  have HGB := Lib.hid hgb
  have hbx := h.box
  subst hg
  obtain ⟨g', hg', _, hcells⟩ := hrow.at liesC n d hd
  obtain rfl : g = g' := by simpa using hg'
  rw [hn] at hbx
  have q0 := (hcells 0 (by decide)).1
  have q1 := (hcells 1 (by decide)).1
  have q2 := (hcells 2 (by decide)).1
  have q3 := (hcells 3 (by decide)).1
  have q4 := (hcells 4 (by decide)).1
  have q5 := (hcells 5 (by decide)).1
  have q6 := (hcells 6 (by decide)).1
  have q7 := (hcells 7 (by decide)).1
  have q8 := (hcells 8 (by decide)).1
  have f0 := (hcells 0 (by decide)).2
  have f1 := (hcells 1 (by decide)).2
  have f2 := (hcells 2 (by decide)).2
  have f3 := (hcells 3 (by decide)).2
  have f4 := (hcells 4 (by decide)).2
  have f5 := (hcells 5 (by decide)).2
  have f6 := (hcells 6 (by decide)).2
  have f7 := (hcells 7 (by decide)).2
  have f8 := (hcells 8 (by decide)).2
  simp only [encC, List.getElem?_cons_zero, List.getElem?_cons_succ, Nat.add_zero] at q0 q1 q2 q3 q4 q5 q6 q7 q8 f0
  have hle : n + 1 ≤ 4095 := by have := h.ch; omega
  have hcap : n + 1 ≤ cc ∧ cc ≤ maxLen := by have := h.row.cap_ge; omega
  have HCAP := Lib.hid hcap
  have HBX := Lib.hid hbx
  have HPL := Lib.hid (lt_of_cell? hp)
  have HP := Lib.hid hp
  obtain ⟨W2, hW2⟩ : ∃ W2, W2 = ((((((((w.setCell ⟨g, n * 9, none⟩ (.int .i64 0)).setCell ⟨g, n * 9 + 1, none⟩ (.slice none 0 0)).setCell ⟨g, n * 9 + 2, none⟩ (.int .i64 0)).setCell ⟨g, n * 9 + 3, none⟩ (.int .i64 0)).setCell ⟨g, n * 9 + 4, none⟩ (.int .i64 0)).setCell ⟨g, n * 9 + 5, none⟩ (.int .i64 0)).setCell ⟨g, n * 9 + 6, none⟩ (.int .i64 0)).setCell ⟨g, n * 9 + 7, none⟩ (.int .i64 0)).setCell ⟨g, n * 9 + 8, none⟩ (.int .i64 0) := ⟨_, rfl⟩
  have HO2 : Hid (Only (· = g) w W2) := Lib.hid (by
    have key : ∀ (W : World) (j : Nat) (u : Value), Only (· = g) W (W.setCell ⟨g, j, none⟩ u) := fun W j u => Only.setCell (S := (· = g)) W (p := ⟨g, j, none⟩) rfl u
    rw [hW2]
    exact ((((((((key _ _ _).same (key _ _ _)).same (key _ _ _)).same (key _ _ _)).same (key _ _ _)).same (key _ _ _)).same (key _ _ _)).same (key _ _ _)).same (key _ _ _))
  have HR2 : Hid (RowC (some ⟨g, 0, none⟩) cc s.cs.dropLast W2) := Lib.hid (by
    have hdl : s.cs.dropLast.length = n := by rw [List.length_dropLast, hn]; rfl
    have ht : RowC (some ⟨g, 0, none⟩) cc s.cs.dropLast w := by
      have := hrow.take liesC n (by omega)
      rwa [show s.cs.take n = s.cs.dropLast by rw [List.dropLast_eq_take, hn]; rfl] at this
    have kb : ∀ (W : World) (j : Nat) (u : Value), RowC (some ⟨g, 0, none⟩) cc s.cs.dropLast W → n * 9 ≤ j → RowC (some ⟨g, 0, none⟩) cc s.cs.dropLast (W.setCell ⟨g, j, none⟩ u) := fun W j u hW hj => RowOf.beyond liesC hW j (by rw [hdl]; exact hj) u
    rw [hW2]
    exact kb _ _ _ (kb _ _ _ (kb _ _ _ (kb _ _ _ (kb _ _ _ (kb _ _ _ (kb _ _ _ (kb _ _ _ (kb _ _ _ ht (by omega)) (by omega)) (by omega)) (by omega)) (by omega)) (by omega)) (by omega)) (by omega)) (by omega))
  clear h hn hpb hrow hgb hbx hcells hd hcap hp hg'
  go_enter Try.func51, Try.ntmps51
  go_upto_region 1 with fail
  rw [← hW2]
  clear hW2 q0 q1 q2 q3 q4 q5 q6 q7 q8 f0 f1 f2 f3 f4 f5 f6 f7 f8
  have c2 := (HBX.out.only HO2.out (fun e => HGB.out e.symm)).c2
  have p0 : W2.cell? ⟨p, 0, none⟩ = some (.pointer (some ⟨b, 0, none⟩)) := (HO2.out.cell (p := ⟨p, 0, none⟩) HPL.out (fun e => HPB.out.2 e)).trans HP.out
  have hw : IntKind.i64.wrap (n : Int) = (n : Int) := IntWalk.i64_in _ (by omega)
  have h0 : (0 : Int) ≤ (n : Int) := by omega
  have h1 : (n : Int) ≤ (cc : Int) := by have := HCAP.out.1; omega
  go_still_tail 14, (by kernel_rfl)
  change wpList _ _ _ _ _ W2.drew
  have HO3 : Hid (Only (fun _ => False) W2 W2.drew) := Lib.hid (Only.drew _ _)
  generalize W2.drew = W3 at *
  have HB3 := Lib.hid ((HBX.out.only HO2.out (fun e => HGB.out e.symm)).only HO3.out (fun e => e))
  have c2 := HB3.out.c2
  have f2 := HB3.out.fz 2
  go_wp2_with fail
  go_end0
  have HB4 : Box b rb (headB s.cur) (some ⟨g, 0, none⟩) n cc lim (W3.setCell ⟨b, 2, none⟩ (.slice (some ⟨g, 0, none⟩) n cc)) := ⟨by simpa using blk_set HB3.out.blk 2 (.slice (some ⟨g, 0, none⟩) n cc)⟩
  have HO4 : Only (· = b) W3 (W3.setCell ⟨b, 2, none⟩ (.slice (some ⟨g, 0, none⟩) n cc)) := Only.setCell (S := (· = b)) W3 (p := ⟨b, 2, none⟩) rfl _
  generalize W3.setCell ⟨b, 2, none⟩ (.slice (some ⟨g, 0, none⟩) n cc) = W4 at *
  have hT : Only (fun k => k = b ∨ RowAt (some ⟨g, 0, none⟩) k) w W4 := ((HO2.out.mono (fun k _ e => .inr ⟨_, rfl, e⟩)).same (HO3.out.no _)).same (HO4.mono (fun k _ e => .inl e))
  have hdl : s.cs.dropLast.length = n := by rw [List.length_dropLast, HN.out]; rfl
  have hroom := HH.out.room.only (toRooms hT) (fun k hk e => by
    rcases e with e | e
    · exact HH.out.b1.1 (e ▸ hk)
    · exact HH.out.b2 k hk e)
  refine ⟨rfl, ⟨?_, hroom, (HR2.out.only HO3.out (fun _ _ e => e)).only HO4 (fun g' hg' e => by cases hg'; exact HGB.out e), fun c hc => ?_, HH.out.b1, HH.out.b2, HH.out.ok.drop, HH.out.le, ?_⟩, hT⟩
  · show Box b rb (headB s.cur) (some ⟨g, 0, none⟩) s.cs.dropLast.length cc lim W4
    rw [hdl]; exact HB4
  · obtain ⟨r1, r2⟩ := HH.out.args c (List.dropLast_subset _ hc)
    refine ⟨r1.only hT (fun g' hg' e => ?_), r2⟩
    rcases e with e | e
    · exact (r2 g' hg').1 e
    · exact (r2 g' hg').2.2 e
  · have := HH.out.ch
    refine ⟨?_, this.2⟩
    show (s.cs.dropLast.length : Int) ≤ lim
    rw [hdl]; have := HN.out; omega
theorem Drop_none (h : Stk b rb ao cap most co cc s wl lim w) (hn : s.cs = []) : Calls Try.prog 17 #[.pointer (some ⟨b, 0, none⟩)] w fun e w' => e = .returned (.int .i64 4) ∧ Only (fun _ => False) w w' := by
  have HO := Lib.hid (Only.alloc (fun _ => False) w (.cells #[.pointer (some ⟨b, 0, none⟩)] 23))
  have HW := Lib.hid (withLast_none (h.later HO.out) hn (.func (.func 51) #[] #[.pointer (some ⟨w.heap.size, 0, none⟩)]))
  clear h hn
  go_enter Try.func17, Try.ntmps17
  go_wp2_with fail
  refine HW.out.mono ?_
  rintro e u ⟨rfl, rfl⟩
  go_wp2_with fail
  go_ret
  exact ⟨rfl, HO.out⟩
theorem Drop_some (h : Stk b rb ao cap most co cc s wl lim w) (hn : s.cs ≠ []) : Calls Try.prog 17 #[.pointer (some ⟨b, 0, none⟩)] w fun e w' => e = .returned (.int .i64 0) ∧ Stk b rb ao cap most co cc { s with cs := s.cs.dropLast } wl lim w' ∧ Only (fun k => k = b ∨ RowAt co k) w w' := by
  obtain ⟨n, hl⟩ : ∃ n, s.cs.length = n + 1 := ⟨s.cs.length - 1, by have := List.length_pos_iff.2 hn; omega⟩
  obtain ⟨g, hg⟩ : ∃ g, co = some ⟨g, 0, none⟩ := by
    obtain ⟨g, hg, _⟩ := h.row.at liesC n (s.cs[n]'(by omega)) (List.getElem?_eq_getElem (by omega))
    exact ⟨g, hg⟩
  have hgl : g < w.heap.size := (h.row.head _ hg).2.2
  have hbl := h.box.lt
  have HO := Lib.hid (Only.alloc (fun _ => False) w (.cells #[.pointer (some ⟨b, 0, none⟩)] 23))
  have hE := h.later HO.out
  have hp : (w.alloc (.cells #[.pointer (some ⟨b, 0, none⟩)] 23)).cell? ⟨w.heap.size, 0, none⟩ = some (.pointer (some ⟨b, 0, none⟩)) := by rw [cell_of_blk (heap_alloc_new w _)]; rfl
  have HW := Lib.hid (withLast_some (v := .pointer (some ⟨w.heap.size, 0, none⟩)) (Q := fun w' => Stk b rb ao cap most co cc { s with cs := s.cs.dropLast } wl lim w' ∧ Only (fun k => k = b ∨ RowAt co k) w w') hE hl hg 51 (fun args W => by rfl) (Lib.hid (fun W o => by
    have hpW : W.cell? ⟨w.heap.size, 0, none⟩ = some (.pointer (some ⟨b, 0, none⟩)) := (o.cell (p := ⟨w.heap.size, 0, none⟩) (by simp) (fun e => e)).trans hp
    refine (drop_one (hE.later o) hl hg hpW ⟨by omega, by omega⟩).mono ?_
    rintro e w' ⟨rfl, h1, h2⟩
    exact ⟨rfl, h1, ((HO.out.same o).no _).same h2⟩)))
  clear h hn hl hg hgl hbl hE hp
  go_enter Try.func17, Try.ntmps17
  go_wp2_with fail
  refine HW.out.mono ?_
  rintro e u ⟨rfl, hq⟩
  have HQ := Lib.hid hq
  clear hq
  go_wp2_with fail
  go_ret
  exact ⟨rfl, HQ.out.1, HQ.out.2⟩
theorem back_one (h : Stk b rb ao cap most co cc s wl lim w) {n g p : Nat} {d : Cho} (hn : s.cs.length = n + 1) (hd : s.cs[n]? = some d) (hg : co = some ⟨g, 0, none⟩) (hp : w.cell? ⟨p, 0, none⟩ = some (.pointer (some ⟨b, 0, none⟩))) :
    Calls Try.prog 52 #[.pointer (some ⟨g, n * 9, none⟩), .pointer (some ⟨p, 0, none⟩)] w fun e w' => e = .returned (.tuple #[]) ∧ Stk b rb ao cap most co cc { s with cur := d.fs } wl lim w' ∧ Only (· = b) w w' := by
  have HH := Lib.hid h
  have hrow := h.row
  have hbx := h.box
  subst hg
  obtain ⟨g', hg', _, hcells⟩ := hrow.at liesC n d hd
  obtain rfl : g = g' := by simpa using hg'
  have q7 := (hcells 7 (by decide)).1
  simp only [encC, List.getElem?_cons_zero, List.getElem?_cons_succ] at q7
  have HEN : Hid (d.env = headB d.fs) := Lib.hid (h.ok.each d (List.mem_of_getElem? hd)).2.2.2
  have HDM : Hid (d ∈ s.cs) := Lib.hid (List.mem_of_getElem? hd)
  have HBX := Lib.hid hbx
  rw [HEN.out] at q7
  clear h hrow hbx hcells hd hg' hn
  go_enter Try.func52, Try.ntmps52
  go_upto_region 0 with fail
  go_still_tail 7, (by kernel_rfl)
  change wpList _ _ _ _ _ w.drew
  have HO3 : Hid (Only (fun _ => False) w w.drew) := Lib.hid (Only.drew _ _)
  have HB3 := Lib.hid (HBX.out.only HO3.out (fun e => e))
  generalize w.drew = W3 at *
  have c1 := HB3.out.c1
  have f1 := HB3.out.fz 1
  go_wp2_with fail
  go_end0
  have HB4 : Box b rb (headB d.fs) (some ⟨g, 0, none⟩) s.cs.length cc lim (W3.setCell ⟨b, 1, none⟩ (.int .i64 (headB d.fs))) := ⟨by simpa using blk_set HB3.out.blk 1 (.int .i64 (headB d.fs))⟩
  have HO4 : Only (· = b) W3 (W3.setCell ⟨b, 1, none⟩ (.int .i64 (headB d.fs))) := Only.setCell (S := (· = b)) W3 (p := ⟨b, 1, none⟩) rfl _
  have hT := (HO3.out.no (· = b)).same HO4
  refine ⟨rfl, HH.out.worded (cs := s.cs) HB4 (HH.out.room.only (toRooms hT) (fun k hk e => HH.out.b1.1 (e ▸ hk))) (hT.mono (fun k _ e => .inl e)) rfl rfl (fun c hc => ⟨c, hc, rfl, rfl, rfl⟩) (HH.out.ok.back d HDM.out) (Nat.le_refl _), hT⟩
theorem Restore_none (h : Stk b rb ao cap most co cc s wl lim w) (hn : s.cs = []) : Calls Try.prog 18 #[.pointer (some ⟨b, 0, none⟩)] w fun e w' => e = .returned (.int .i64 4) ∧ Only (fun _ => False) w w' := by
  have HO := Lib.hid (Only.alloc (fun _ => False) w (.cells #[.pointer (some ⟨b, 0, none⟩)] 23))
  have HW := Lib.hid (withLast_none (h.later HO.out) hn (.func (.func 52) #[] #[.pointer (some ⟨w.heap.size, 0, none⟩)]))
  clear h hn
  go_enter Try.func18, Try.ntmps18
  go_wp2_with fail
  refine HW.out.mono ?_
  rintro e u ⟨rfl, rfl⟩
  go_wp2_with fail
  go_ret
  exact ⟨rfl, HO.out⟩
theorem Restore_some (h : Stk b rb ao cap most co cc s wl lim w) {d : Cho} (hd : s.cs.getLast? = some d) : Calls Try.prog 18 #[.pointer (some ⟨b, 0, none⟩)] w fun e w' => e = .returned (.int .i64 0) ∧ Stk b rb ao cap most co cc { s with cur := d.fs } wl lim w' ∧ Only (· = b) w w' := by
  have hne : s.cs ≠ [] := fun e => by rw [e] at hd; cases hd
  obtain ⟨n, hl⟩ : ∃ n, s.cs.length = n + 1 := ⟨s.cs.length - 1, by have := List.length_pos_iff.2 hne; omega⟩
  have hdn : s.cs[n]? = some d := by rw [List.getLast?_eq_getElem?, hl] at hd; exact hd
  obtain ⟨g, hg⟩ : ∃ g, co = some ⟨g, 0, none⟩ := by
    obtain ⟨g, hg, _⟩ := h.row.at liesC n d hdn
    exact ⟨g, hg⟩
  have HO := Lib.hid (Only.alloc (fun _ => False) w (.cells #[.pointer (some ⟨b, 0, none⟩)] 23))
  have hE := h.later HO.out
  have hp : (w.alloc (.cells #[.pointer (some ⟨b, 0, none⟩)] 23)).cell? ⟨w.heap.size, 0, none⟩ = some (.pointer (some ⟨b, 0, none⟩)) := by rw [cell_of_blk (heap_alloc_new w _)]; rfl
  have HW := Lib.hid (withLast_some (v := .pointer (some ⟨w.heap.size, 0, none⟩)) (Q := fun w' => Stk b rb ao cap most co cc { s with cur := d.fs } wl lim w' ∧ Only (· = b) w w') hE hl hg 52 (fun args W => by rfl) (Lib.hid (fun W o => by
    have hpW : W.cell? ⟨w.heap.size, 0, none⟩ = some (.pointer (some ⟨b, 0, none⟩)) := (o.cell (p := ⟨w.heap.size, 0, none⟩) (by simp) (fun e => e)).trans hp
    refine (back_one (hE.later o) hl hdn hg hpW).mono ?_
    rintro e w' ⟨rfl, h1, h2⟩
    exact ⟨rfl, h1, ((HO.out.same o).no _).same h2⟩)))
  clear h hl hdn hg hE hp
  go_enter Try.func18, Try.ntmps18
  go_wp2_with fail
  refine HW.out.mono ?_
  rintro e u ⟨rfl, hq⟩
  have HQ := Lib.hid hq
  clear hq
  go_wp2_with fail
  go_ret
  exact ⟨rfl, HQ.out.1, HQ.out.2⟩
end
end Go.Proofs.Ythfilpacmllhpaa.stk
