/- Environments and choices in memory: Set, Alloc, Dealloc, Trim. -/
import Derived.Test.YthfilpacmllhpaaStk2
namespace Go.Proofs.Ythfilpacmllhpaa.stk
set_option maxRecDepth 100000
open Go.RowKit Go.Proofs.Ythfilpacmllhpaa.own
open Go.Proofs.Ythfilpacmllhpaa.rooms (RoomP IsRoom)
section
variable {b rb : Nat} {ao co : Option Addr} {cap cc : Nat} {most wl lim : Int} {s : St} {w w' : World}
/-- A stack behind a step that has turned its words (in the same blocks) and perhaps its box. -/
theorem Stk.worded (h : Stk b rb ao cap most co cc s wl lim w) {xs : List Int} {cur : List Fr} {cs : List Cho} {most' : Int} (hb : Box b rb (headB cur) co s.cs.length cc lim w') (hr : RoomP 0 rb ao cap xs wl most' w') (ho : Only (fun k => k = b ∨ rooms.Mine rb ao k) w w')
    (hc : cs.length = s.cs.length) (he : cs.flatMap encC = s.cs.flatMap encC) (ha : ∀ c ∈ cs, ∃ d ∈ s.cs, c.ao = d.ao ∧ c.cap = d.cap ∧ c.args = d.args) (hok : St.Ok ⟨xs, cur, cs⟩) (hl : xs.length ≤ s.xs.length) : Stk b rb ao cap most' co cc ⟨xs, cur, cs⟩ wl lim w' := by
  have hrow : RowC co cc s.cs w' := h.row.only ho (fun g hg => by
    rintro (e | e)
    · exact h.b1.2 ⟨g, hg, e.symm⟩
    · exact h.b2 _ e ⟨g, hg, rfl⟩)
  refine ⟨by rw [show (St.mk xs cur cs).cs.length = s.cs.length from hc]; exact hb, hr, ?_, ?_, h.b1, h.b2, hok, ⟨by have := h.le; show (xs.length : Int) ≤ wl; omega, h.le.2⟩, ⟨by have := h.ch; show (cs.length : Int) ≤ lim; omega, h.ch.2⟩⟩
  · show RowOf encC 9 _ 0 co cc cs w'
    unfold RowOf
    rw [hc, he]
    exact hrow
  · intro c hcm
    obtain ⟨d, hd, e1, e2, e3⟩ := ha c hcm
    obtain ⟨r1, r2⟩ := h.args d hd
    rw [e1, e2, e3]
    refine ⟨r1.only ho (fun g hg => ?_), r2⟩
    rintro (e | e)
    · exact (r2 g hg).1 e
    · exact (r2 g hg).2.1 e
/-- A stack behind a step that may have moved its words. -/
theorem Stk.moved (h : Stk b rb ao cap most co cc s wl lim w) {xs : List Int} {cur : List Fr} {most' : Int} {ao' : Option Addr} {cap' : Nat} (hb : Box b rb (headB cur) co s.cs.length cc lim w') (hr : RoomP 0 rb ao' cap' xs wl most' w') (ho : Only (fun k => k = b ∨ rooms.Mine rb ao k) w w')
    (hnw : NewRow w.heap.size ao ao') (hok : St.Ok ⟨xs, cur, s.cs⟩) (hl : (xs.length : Int) ≤ wl) : Stk b rb ao' cap' most' co cc ⟨xs, cur, s.cs⟩ wl lim w' := by
  refine ⟨hb, hr, h.row.only ho (fun g hg => ?_), fun c hcm => ?_, ⟨?_, h.b1.2⟩, fun k hk => ?_, hok, ⟨hl, h.le.2⟩, h.ch⟩
  · rintro (e | e)
    · exact h.b1.2 ⟨g, hg, e.symm⟩
    · exact h.b2 _ e ⟨g, hg, rfl⟩
  · obtain ⟨r1, r2⟩ := h.args c hcm
    refine ⟨r1.only ho (fun g hg => ?_), fun g hg => ⟨(r2 g hg).1, ?_, (r2 g hg).2.2⟩⟩
    · rintro (e | e)
      · exact (r2 g hg).1 e
      · exact (r2 g hg).2.1 e
    · rintro (e | ⟨g', hg', e⟩)
      · exact (r2 g hg).2.1 (.inl e)
      · rcases hnw g' hg' with h1 | h1
        · exact (r2 g hg).2.1 (.inr ⟨g', h1, e⟩)
        · have := (r1.head g hg).2.2; omega
  · rintro (e | ⟨g', hg', e⟩)
    · exact h.b1.1 (.inl e)
    · rcases hnw g' hg' with h1 | h1
      · exact h.b1.1 (.inr ⟨g', h1, e⟩)
      · have := h.box.lt; omega
  · rcases hk with e | ⟨g', hg', e⟩
    · exact h.b2 k (.inl e)
    · rcases hnw g' hg' with h1 | h1
      · exact h.b2 k (.inr ⟨g', h1, e⟩)
      · rintro ⟨g, hg, e2⟩
        have := (h.row.head g hg).2.2
        omega
/-- In the midst of Alloc. -/
structure Mid (bk b rb : Nat) (x y : Int) (ao co : Option Addr) (n cc : Nat) (env lim wl : Int) (w2 : World) (xs : List Int) (ao' : Option Addr) (cap' : Nat) (most' : Int) (W : World) : Prop where
  box : Box b rb env co n cc lim W
  room : RoomP 0 rb ao' cap' xs wl most' W
  duo : Duo bk (.int .i64 x) (.int .i64 y) W
  only : Only (fun k => k = b ∨ rooms.Mine rb ao k) w2 W
  nw : NewRow w2.heap.size ao ao'
theorem Mid.step {bk n : Nat} {x y env : Int} {w2 W W' : World} {xs xs2 : List Int} {ao' ao2 : Option Addr} {cap' cap2 : Nat} {most' most2 : Int} (h : Mid bk b rb x y ao co n cc env lim wl w2 xs ao' cap' most' W)
    (hs : ¬ rooms.Mine rb ao b ∧ ¬ rooms.Mine rb ao bk ∧ b < w2.heap.size ∧ bk < w2.heap.size) (hr : RoomP 0 rb ao2 cap2 xs2 wl most2 W') (ho : Only (rooms.Mine rb ao') W W') (hn : NewRow W.heap.size ao' ao2) : Mid bk b rb x y ao co n cc env lim wl w2 xs2 ao2 cap2 most2 W' := by
  have key : ∀ k, k < w2.heap.size → rooms.Mine rb ao' k → rooms.Mine rb ao k := by
    rintro k hk (e | ⟨g, hg, e⟩)
    · exact .inl e
    · rcases h.nw g hg with h1 | h1
      · exact .inr ⟨g, h1, e⟩
      · omega
  refine ⟨h.box.only ho (fun e => hs.1 (key b hs.2.2.1 e)), hr, ⟨?_⟩, h.only.trans ho (fun k hk e => .inr (key k hk e)), h.nw.trans hn h.only.size⟩
  rw [ho.block bk (Nat.lt_of_lt_of_le hs.2.2.2 h.only.size) (fun e => hs.2.1 (key bk hs.2.2.2 e))]
  exact h.duo.blk
theorem enc_put (bs i : Nat) (v : Int) (cs : List Cho) : (cs.map (setC bs i v)).flatMap encC = cs.flatMap encC := by
  induction cs with
  | nil => rfl
  | cons c cs ih => rw [List.map_cons, List.flatMap_cons, List.flatMap_cons, ih]; rfl
theorem Set_no (h : Stk b rb ao cap most co cc s wl lim w) (i x : Int) (hi : i < 1 ∨ (slotsF s.cur : Int) < i) : Calls Try.prog 27 #[.pointer (some ⟨b, 0, none⟩), .int .i64 i, .int .u64 x] w fun e w' => e = .returned (.int .i64 4) ∧ w' = w := by
  have HB := Lib.hid (closed_no h.box)
  have HS := Lib.hid (hasSlot_no h i hi)
  clear h hi
  go_enter Try.func27, Try.ntmps27
  go_wp2_with fail
  refine HB.out.mono ?_
  rintro e w' ⟨rfl, rfl⟩
  go_wp2_with fail
  refine HS.out.mono ?_
  rintro e w' ⟨rfl, rfl⟩
  go_wp2_with fail
  go_ret
  exact ⟨rfl, rfl⟩
theorem Set_yes (h : Stk b rb ao cap most co cc s wl lim w) {f : Fr} {fs : List Fr} (hn : s.cur = f :: fs) (i : Nat) (hi : i < f.ys.length) (x : Int) : Calls Try.prog 27 #[.pointer (some ⟨b, 0, none⟩), .int .i64 ((i : Int) + 1), .int .u64 x] w fun e w' => e = .returned (.int .i64 0) ∧ Stk b rb ao cap most co cc (s.put f.base i x) wl lim w' ∧ Only (rooms.RowAt ao) w w' := by
  have HB := Lib.hid (closed_no h.box)
  have HS := Lib.hid (hasSlot_yes h i (by rw [hn]; exact hi))
  have hC := h.ok.cur
  have hb := h.box
  rw [hn] at hC
  rw [hn, show headB (f :: fs) = f.base from rfl] at hb
  have c0 := hb.c0
  have c1 := hb.c1
  have hle := hC.1.le
  have hxl := h.len
  have HP : Hid (∀ W : World, Calls Try.prog 57 #[.pointer (some ⟨b, 0, none⟩), .int .i64 f.base, .int .i64 ((i : Int) + 1)] W fun e w' => e = .returned (.int .i64 ((f.base + 4 + i : Nat) : Int)) ∧ w' = W) := Lib.hid (fun W => by
    have := place_any f.base ((i : Int) + 1) ⟨by omega, by omega⟩ ⟨by omega, by omega⟩ (.pointer (some ⟨b, 0, none⟩)) W
    rwa [show (f.base : Int) + 4 + ((i : Int) + 1) - 1 = ((f.base + 4 + i : Nat) : Int) by omega] at this)
  have HG : Hid (∀ W : World, Only (fun _ => False) w W → Calls Try.prog 66 #[.pointer (some ⟨rb, 0, none⟩), .int .i64 ((f.base + 4 + i : Nat) : Int), .int .u64 x] W fun e w' => e = .returned (.int .i64 0) ∧ Stk b rb ao cap most co cc (s.put f.base i x) wl lim w' ∧ Only (rooms.RowAt ao) W w') := Lib.hid (fun W o => by
    have hW := h.later o
    refine (rooms.set_yes (f.base + 4 + i) x hW.room (by omega) hxl).mono ?_
    rintro e w' ⟨rfl, hr', ho'⟩
    have ho2 : Only (fun k => k = b ∨ rooms.Mine rb ao k) W w' := (toOwn ho').mono (fun k _ hk => .inr (.inr hk))
    refine ⟨rfl, hW.worded (cs := s.cs.map (setC f.base i x)) ?_ hr' ho2 (List.length_map _) (enc_put _ _ _ _) ?_ (h.ok.put hn i x hi) (by rw [List.length_set]; exact Nat.le_refl _), toOwn ho'⟩
    · rw [headB_set]
      exact hW.box.only (toOwn ho') (fun e => h.b1.1 (.inr e))
    · intro c hc
      obtain ⟨d, hd, rfl⟩ := List.mem_map.1 hc
      exact ⟨d, hd, rfl, rfl, rfl⟩)
  have HK : Hid (∀ W : World, Only (rooms.RowAt ao) w W → W.cell? ⟨b, 0, none⟩ = some (.pointer (some ⟨rb, 0, none⟩)) ∧ W.cell? ⟨b, 1, none⟩ = some (.int .i64 f.base)) := Lib.hid (fun W o => ⟨(hb.only o (fun e => h.b1.1 (.inr e))).c0, (hb.only o (fun e => h.b1.1 (.inr e))).c1⟩)
  clear h hC hb hle hxl hn hi
  generalize (s.put f.base i x) = s2 at *
  generalize (i : Int) + 1 = j at *
  generalize f.base + 4 + i = k at *
  generalize f.base = m at *
  go_enter Try.func27, Try.ntmps27
  go_wp2_with fail
  refine HB.out.mono ?_
  rintro e w' ⟨rfl, rfl⟩
  go_wp2_with fail
  refine HS.out.mono ?_
  rintro e w' ⟨rfl, rfl⟩
  go_wp2_with fail
  go_region_held3 (fun W : World => W.cell? ⟨b, 0, none⟩ = some (.pointer (some ⟨rb, 0, none⟩)) ∧ W.cell? ⟨b, 1, none⟩ = some (.int .i64 m)) (with_reducible first | exact HK.out _ HO2.out | exact HK.out _ (Only.drew _ _)) (first | (go_at_call 57; (with_reducible refine (HP.out _).mono ?_); rintro r u ⟨rfl, rfl⟩) | (go_at_call 66; (with_reducible refine (HG.out _ (Only.drew _ _)).mono ?_); rintro r u ⟨rfl, hs2, ho2⟩; have HS2 := Lib.hid hs2; have HO2 : Hid (Only (rooms.RowAt ao) w' u) := Lib.hid ((Only.drew _ _).same ho2); clear hs2 ho2))
  go_wp2_with fail
  go_ret
  exact ⟨rfl, HS2.out, HO2.out⟩
theorem Alloc_arg (h : Stk b rb ao cap most co cc s wl lim w) (n : Int) (x y : Int) (hn : n < 0 ∨ 64 < n) : Calls Try.prog 26 #[.pointer (some ⟨b, 0, none⟩), .int .i64 n, .agg #[.int .i64 x, .int .i64 y]] w fun e w' => e = .returned (.int .i64 1) ∧ Only (fun _ => False) w w' := by
  have HO := Lib.hid (Only.alloc (fun _ => False) w (.cells #[.int .i64 x, .int .i64 y] 32))
  have HB := Lib.hid (closed_no (h.later HO.out).box)
  clear h
  by_cases h0 : n < 0
  · clear hn
    go_enter Try.func26, Try.ntmps26
    go_wp2_with fail
    refine HB.out.mono ?_
    rintro e w' ⟨rfl, rfl⟩
    go_wp2_with fail
    go_ret
    exact ⟨rfl, HO.out⟩
  · have h1 : 64 < n := by omega
    clear hn
    go_enter Try.func26, Try.ntmps26
    go_wp2_with fail
    refine HB.out.mono ?_
    rintro e w' ⟨rfl, rfl⟩
    go_wp2_with fail
    go_ret
    exact ⟨rfl, HO.out⟩
theorem Alloc_full (h : Stk b rb ao cap most co cc s wl lim w) (n : Nat) (x y : Int) (hn : n ≤ 64) (hf : wl < (s.top : Int) + 4 + (n : Int)) : Calls Try.prog 26 #[.pointer (some ⟨b, 0, none⟩), .int .i64 n, .agg #[.int .i64 x, .int .i64 y]] w fun e w' => e = .returned (.int .i64 2) ∧ Only (fun _ => False) w w' := by
  have HO := Lib.hid (Only.alloc (fun _ => False) w (.cells #[.int .i64 x, .int .i64 y] 32))
  have HW := Lib.hid (h.later HO.out)
  have htl := top_le h.ok
  have hxl := h.len
  have htb : s.top ≤ 1048576 := by omega
  have hwl := h.le.2
  have HB := Lib.hid (closed_no HW.out.box)
  have c0 := HW.out.box.c0
  clear h htl hxl
  generalize hW : w.alloc (.cells #[.int .i64 x, .int .i64 y] 32) = W at *
  have HWE := Lib.hid hW
  clear hW
  have HT := Lib.hid (top_any HW.out)
  have HC : Hid (∀ W', Only (fun _ => False) W W' → W'.cell? ⟨b, 0, none⟩ = some (.pointer (some ⟨rb, 0, none⟩)) ∧ RoomP 0 rb ao cap s.xs wl most W') := Lib.hid (fun W' o => ⟨(HW.out.later o).box.c0, (HW.out.later o).room⟩)
  clear HW c0
  generalize s.top = t at *
  go_enter Try.func26, Try.ntmps26
  go_wp2_with fail
  rw [HWE.out]
  refine HB.out.mono ?_
  rintro e w' ⟨rfl, hw'⟩
  obtain rfl : W = w' := hw'.symm
  go_wp2_with fail
  refine HT.out.mono ?_
  rintro e w2 ⟨rfl, ho⟩
  have HO2 := Lib.hid ho
  clear ho
  obtain ⟨c0, hr⟩ := HC.out _ HO2.out
  have HR := Lib.hid hr
  clear hr
  go_wp2_with fail
  refine (rooms.limit_any HR.out).mono ?_
  rintro e w3 ⟨rfl, rfl⟩
  go_wp2_with fail
  go_ret
  exact ⟨rfl, HO.out.same HO2.out⟩
set_option maxHeartbeats 2000000 in
theorem Alloc_yes (h : Stk b rb ao cap most co cc s wl lim w) (n : Nat) (x y : Int) (hx : Fits x) (hy : Fits y) (hn : n ≤ 64) (hf : (s.top : Int) + 4 + (n : Int) ≤ wl) : Calls Try.prog 26 #[.pointer (some ⟨b, 0, none⟩), .int .i64 n, .agg #[.int .i64 x, .int .i64 y]] w fun e w' => e = .returned (.int .i64 0) ∧
    ∃ ao' cap' most', Stk b rb ao' cap' most' co cc { s with xs := allocW s.xs s.top (headB s.cur) x y n, cur := ⟨s.top, List.replicate n 0, x, y⟩ :: s.cur } wl lim w' ∧ Only (fun k => k = b ∨ rooms.Mine rb ao k) w w' ∧ NewRow w.heap.size ao ao' := by
  have HO := Lib.hid (Only.alloc (fun _ => False) w (.cells #[.int .i64 x, .int .i64 y] 32))
  have HD : Hid (Duo w.heap.size (.int .i64 x) (.int .i64 y) (w.alloc (.cells #[.int .i64 x, .int .i64 y] 32))) := Lib.hid ⟨heap_alloc_new w _⟩
  have HW := Lib.hid (h.later HO.out)
  have HH := Lib.hid h
  have htl := top_le h.ok
  have hxl := h.len
  have htb : s.top ≤ 1048576 := by omega
  have hwl := h.le.2
  have HB := Lib.hid (closed_no HW.out.box)
  have HF : Hid (Fits x ∧ Fits y) := Lib.hid ⟨hx, hy⟩
  have HTL := Lib.hid htl
  have HLT : Hid (w.heap.size < (w.alloc (.cells #[.int .i64 x, .int .i64 y] 32)).heap.size) := Lib.hid (by simp)
  have HBN : Hid (∀ k, k = b ∨ rooms.Mine rb ao k ∨ RowAt co k → k < w.heap.size) := Lib.hid (by
    rintro k (rfl | hk | ⟨g, hg, rfl⟩)
    · exact h.box.lt
    · exact (h.room.mine_lt k hk).2
    · exact (h.row.head g hg).2.2)
  clear h htl hxl hx hy
  generalize hW : w.alloc (.cells #[.int .i64 x, .int .i64 y] 32) = W at *
  have HWE := Lib.hid hW
  clear hW
  have HT := Lib.hid (top_any HW.out)
  have HX : Hid ((s.xs.length : Int) ≤ wl ∧ wl ≤ 1048576) := Lib.hid HW.out.le
  generalize ht : s.top = t at *
  have HTE := Lib.hid ht
  clear ht
  generalize hbk : w.heap.size = bk at *
  have HBK := Lib.hid hbk
  clear hbk
  go_enter Try.func26, Try.ntmps26
  go_wp2_with fail
  rw [HWE.out, HBK.out]
  refine HB.out.mono ?_
  rintro e w' ⟨rfl, hw'⟩
  obtain rfl : W = w' := hw'.symm
  go_wp2_with fail
  refine HT.out.mono ?_
  rintro e w2 ⟨rfl, ho⟩
  have HO2 := Lib.hid ho
  clear ho
  have HW2 := Lib.hid (HW.out.later HO2.out)
  have HD2 : Hid (Duo bk (.int .i64 x) (.int .i64 y) w2) := Lib.hid ⟨by rw [HO2.out.block bk HLT.out (fun e => e)]; exact HD.out.blk⟩
  have c0 := HW2.out.box.c0
  clear HW HB HT HD
  go_wp2_with fail
  refine (rooms.limit_any HW2.out.room).mono ?_
  rintro e w3 ⟨rfl, rfl⟩
  have c0 := HW2.out.box.c0
  go_wp2_with fail
  refine (rooms.cut_yes t HW2.out.room (by rw [← HTE.out]; exact top_le HW2.out.ok) HW2.out.len).mono ?_
  rintro e w3 ⟨rfl, hr3, ho3⟩
  have HSD : Hid (¬ rooms.Mine rb ao b ∧ ¬ rooms.Mine rb ao bk ∧ b < w2.heap.size ∧ bk < w2.heap.size) := Lib.hid ⟨HW2.out.b1.1, fun e => by have := HBN.out bk (.inr (.inl e)); omega, HW2.out.box.lt, Nat.lt_of_lt_of_le HLT.out HO2.out.size⟩
  have HM0 : Mid bk b rb x y ao co s.cs.length cc (headB s.cur) lim wl w2 s.xs ao cap most w2 := ⟨HW2.out.box, HW2.out.room, HD2.out, Only.refl _ _, NewRow.refl _ _⟩
  have HM3 := Lib.hid (HM0.step HSD.out hr3 ((toOwn ho3).mono (fun k _ e => .inl e)) (NewRow.refl _ _))
  clear HM0 hr3 ho3
  have hl3 : (s.xs.take t).length = t := by rw [List.length_take]; have := HTL.out; omega
  have HL3 := Lib.hid hl3
  clear hl3
  have c0 := HM3.out.box.c0
  have e4 : (4 : Int) + (n : Int) = ((4 + n : Nat) : Int) := by omega
  have HE4 := Lib.hid e4
  clear e4
  go_wp2_with fail
  rw [HE4.out]
  refine (rooms.grow_some (4 + n) HM3.out.room (by rw [HL3.out]; omega) HX.out.2 (by rw [HL3.out]; omega)).mono ?_
  rintro e w4 ⟨rfl, ao4, cap4, hr4, ho4, hn4⟩
  have HM4 := Lib.hid (HM3.out.step HSD.out hr4 (toOwn ho4) hn4)
  have HL4 : Hid ((s.xs.take t ++ List.replicate (4 + n) 0).length = t + 4 + n) := Lib.hid (by rw [List.length_append, HL3.out, List.length_replicate]; omega)
  clear hr4 ho4 hn4
  generalize hx4 : s.xs.take t ++ List.replicate (4 + n) 0 = x4 at *
  have HX4 := Lib.hid hx4
  clear hx4
  generalize max most (x4.length : Int) = m4 at *
  have c0 := HM4.out.box.c0
  have c1 := HM4.out.box.c1
  go_wp2_with fail
  refine (put_at HM4.out.box HM4.out.room t 0 (t + 0) rfl (headB s.cur) (by have := HL4.out; omega) (by have := HL4.out; omega)).mono ?_
  rintro e w5 ⟨rfl, hr5, ho5⟩
  have HM5 := Lib.hid (HM4.out.step HSD.out hr5 (ho5.mono (fun k _ e => .inr e)) (NewRow.refl _ _))
  have HL5 : Hid ((x4.set (t + 0) (uw (headB s.cur))).length = t + 4 + n) := Lib.hid (by rw [List.length_set]; exact HL4.out)
  clear hr5 ho5
  have d0 := HM5.out.duo.cells.1
  go_wp2_with fail
  refine (put_at HM5.out.box HM5.out.room t 1 (t + 1) rfl x (by have := HL5.out; omega) (by have := HL5.out; omega)).mono ?_
  rintro e w6 ⟨rfl, hr6, ho6⟩
  have HM6 := Lib.hid (HM5.out.step HSD.out hr6 (ho6.mono (fun k _ e => .inr e)) (NewRow.refl _ _))
  have HL6 : Hid (((x4.set (t + 0) (uw (headB s.cur))).set (t + 1) (uw x)).length = t + 4 + n) := Lib.hid (by rw [List.length_set]; exact HL5.out)
  clear hr6 ho6
  have d1 := HM6.out.duo.cells.2
  go_wp2_with fail
  refine (put_at HM6.out.box HM6.out.room t 2 (t + 2) rfl y (by have := HL6.out; omega) (by have := HL6.out; omega)).mono ?_
  rintro e w7 ⟨rfl, hr7, ho7⟩
  have HM7 := Lib.hid (HM6.out.step HSD.out hr7 (ho7.mono (fun k _ e => .inr e)) (NewRow.refl _ _))
  have HL7 : Hid ((((x4.set (t + 0) (uw (headB s.cur))).set (t + 1) (uw x)).set (t + 2) (uw y)).length = t + 4 + n) := Lib.hid (by rw [List.length_set]; exact HL6.out)
  clear hr7 ho7
  go_wp2_with fail
  refine (put_at HM7.out.box HM7.out.room t 3 (t + 3) rfl n (by have := HL7.out; omega) (by have := HL7.out; omega)).mono ?_
  rintro e w8 ⟨rfl, hr8, ho8⟩
  have HM8 := Lib.hid (HM7.out.step HSD.out hr8 (ho8.mono (fun k _ e => .inr e)) (NewRow.refl _ _))
  clear hr8 ho8
  have c0 := HM8.out.box.c0
  have c1 := HM8.out.box.c1
  have f1 := HM8.out.box.fz 1
  go_wp2_with fail
  go_ret
  have hw9 : Only (· = b) w8 (w8.setCell ⟨b, 1, none⟩ (.int .i64 t)) := Only.setCell (S := (· = b)) w8 (p := ⟨b, 1, none⟩) rfl _
  have hbx := blk_set HM8.out.box.blk 1 (.int .i64 t)
  have hal := alloc_eq (p := headB s.cur) (cl := x) (at' := y) (n := n) HTL.out
  rw [HX4.out] at hal
  have hroom := HM8.out.room.only (toRooms hw9) (fun k hk e => by
    rcases hk with e' | ⟨g, hg, e'⟩
    · exact HH.out.b1.1 (.inl (e ▸ e'))
    · rcases HM8.out.nw g hg with h1 | h1
      · exact HH.out.b1.1 (.inr ⟨g, h1, e ▸ e'⟩)
      · have := HSD.out.2.2.1; omega)
  have hT : Only (fun k => k = b ∨ rooms.Mine rb ao k) w (w8.setCell ⟨b, 1, none⟩ (.int .i64 t)) := (((HO.out.no _).same (HO2.out.no _)).same HM8.out.only).same (hw9.mono (fun k _ e => .inl e))
  have hN : NewRow w.heap.size ao ao4 := fun g hg => by
    rcases HM8.out.nw g hg with h1 | h1
    · exact .inl h1
    · exact .inr (Nat.le_trans (Nat.le_trans HO.out.size HO2.out.size) h1)
  rw [show t + 0 = t from rfl, hal] at hroom
  have hok := HH.out.ok.alloc x y n hn HF.out.1 HF.out.2
  rw [HTE.out] at hok
  refine ⟨rfl, ao4, cap4, m4, HH.out.moved ⟨?_⟩ hroom hT hN hok ?_, hT, HBK.out ▸ hN⟩
  · simpa [headB] using hbx
  · rw [alloc_len HTL.out]; omega
end
end Go.Proofs.Ythfilpacmllhpaa.stk
