/- Environments and choices: the law FrameKeeps. -/
import Derived.Test.YthfilpacmllhpaaStk16
namespace Go.Proofs.Ythfilpacmllhpaa.stk
set_option maxRecDepth 100000
open Go.RowKit Go.Proofs.Ythfilpacmllhpaa.own
/-- What was told, in blocks of P. -/
structure Kept (P : Nat → Prop) (B : Nat) (lo : Option Addr) (lc : Nat) (gs : List Gr) (w : World) : Prop where
  told : Told B lo lc gs w
  pl : ∀ g, lo = some g → P g.block
  py : ∀ x ∈ gs, ∀ a, x.so = some a → P a.block
theorem Kept.only {P S : Nat → Prop} {B lc : Nat} {lo : Option Addr} {gs : List Gr} {w w' : World} (h : Kept P B lo lc gs w) (ho : Only S w w') (hS : ∀ k, P k → ¬ S k) : Kept P B lo lc gs w' :=
  ⟨⟨h.told.row.only ho (fun g hg => hS _ (h.pl g hg)), fun x hx => (h.told.ys x hx).only ho (fun a ha => hS _ (h.py x hx a ha))⟩, h.pl, h.py⟩
theorem arg_cells {ao : Option Addr} {l : List FOp} {w W : World} (h : ArgO ao l w) (o : Only (fun _ => False) w W) {i : Nat} {x : FOp} (hi : l[i]? = some x) : ∃ b off, ao = some ⟨b, off, none⟩ ∧ x.Ok ∧
    (W.cell? ⟨b, off + i * 14, none⟩ = some (.int .i64 x.k) ∧ W.cell? ⟨b, off + i * 14 + 1, none⟩ = some (.int .i64 x.n) ∧ W.cell? ⟨b, off + i * 14 + 2, none⟩ = some (.int .u64 x.x) ∧ W.cell? ⟨b, off + i * 14 + 3, none⟩ = some (.int .i64 x.c0) ∧ W.cell? ⟨b, off + i * 14 + 4, none⟩ = some (.int .i64 x.c1) ∧ W.cell? ⟨b, off + i * 14 + 5, none⟩ = some (.int .i64 x.y0) ∧ W.cell? ⟨b, off + i * 14 + 6, none⟩ = some (.slice x.yo x.yn x.yc)) ∧
    (W.cell? ⟨b, off + i * 14 + 7, none⟩ = some (.int .i64 x.y2) ∧ W.cell? ⟨b, off + i * 14 + 8, none⟩ = some (.int .i64 x.y3) ∧ W.cell? ⟨b, off + i * 14 + 9, none⟩ = some (.int .i64 x.y4) ∧ W.cell? ⟨b, off + i * 14 + 10, none⟩ = some (.int .i64 x.y5) ∧ W.cell? ⟨b, off + i * 14 + 11, none⟩ = some (.int .i64 x.y6) ∧ W.cell? ⟨b, off + i * 14 + 12, none⟩ = some (.int .i64 x.y7) ∧ W.cell? ⟨b, off + i * 14 + 13, none⟩ = some (.int .i64 x.y8)) := by
  obtain ⟨b, off, h1, h2, h3, h4⟩ := h i x hi
  have key : ∀ j u, (encO x)[j]? = some u → W.cell? ⟨b, off + i * 14 + j, none⟩ = some u := fun j u hu => (o.cell (p := ⟨b, off + i * 14 + j, none⟩) h2 (fun e => e)).trans (h3 j u hu)
  exact ⟨b, off, h1, h4, ⟨key 0 _ rfl, key 1 _ rfl, key 2 _ rfl, key 3 _ rfl, key 4 _ rfl, key 5 _ rfl, key 6 _ rfl⟩, ⟨key 7 _ rfl, key 8 _ rfl, key 9 _ rfl, key 10 _ rfl, key 11 _ rfl, key 12 _ rfl, key 13 _ rfl⟩⟩
/-- The first calls: k of them. -/
structure Kp1 (b k : Nat) (w W : World) : Prop where
  s : ∃ s, Has w.heap.size (fun _ => False) b s 5000 100 W ∧ s.cs.length ≤ k
  o : Only (fun _ => False) w W
/-- What the last choice keeps, and what was told of it. -/
structure Kp2 (b d m : Nat) (c : Cho) (P : Nat → Prop) (B : Nat) (lo : Option Addr) (lc : Nat) (gs : List Gr) (w W : World) : Prop where
  s : ∃ s, Has w.heap.size P b s 5000 100 W ∧ s.cs[d]? = some c ∧ s.cs.length ≤ m
  k : Kept P B lo lc gs W
  o : Only (fun _ => False) w W
section
variable {b d m : Nat} {c : Cho} {P : Nat → Prop} {B lc : Nat} {lo : Option Addr} {gs : List Gr} {w W W' : World}
theorem Kp1.step {k : Nat} {z : Int} {s : St} (ho : Only (fun _ => False) w W) (hl : s.cs.length ≤ k) (hw : Went w.heap.size (fun _ => False) b 5000 100 (StepR z s) W W') : Kp1 b (k + 1) w W' := by
  obtain ⟨s', h1, h2⟩ := hw.s
  exact ⟨⟨s', h1, by have := h2.1; omega⟩, Only.zed ho hw.o (Nat.le_refl _)⟩
theorem Kp2.step {z : Int} {s : St} (hk : Kept P B lo lc gs W) (ho : Only (fun _ => False) w W) (hd : s.cs[d]? = some c) (hl : s.cs.length ≤ m) (h4 : z ≠ 4) (h8 : z = 8 → d + 1 < s.cs.length) (hw : Went w.heap.size P b 5000 100 (StepR z s) W W') : Kp2 b d (m + 1) c P B lo lc gs w W' := by
  obtain ⟨s', h1, h2, h3⟩ := hw.s
  refine ⟨⟨s', h1, ?_, by omega⟩, hk.only hw.o (fun k hk e => e.2 hk), Only.zed ho hw.o (Nat.le_refl _)⟩
  have hdl := (List.getElem?_eq_some_iff.1 hd).1
  rcases h3 with h3 | h3 | ⟨c', h3⟩ | ⟨h3, h3'⟩
  · exact absurd h3 h4
  · rw [h3]; exact hd
  · rw [h3, List.getElem?_append_left hdl]; exact hd
  · rw [h3', List.getElem?_dropLast, if_pos (by have := h8 h3; omega)]; exact hd
end
theorem Kp2.weak {b d m m' : Nat} {c : Cho} {P : Nat → Prop} {B lc : Nat} {lo : Option Addr} {gs : List Gr} {w W : World} (h : Kp2 b d m c P B lo lc gs w W) (hm : m ≤ m') : Kp2 b d m' c P B lo lc gs w W := by
  obtain ⟨s, h1, h2, h3⟩ := h.s
  exact ⟨⟨s, h1, h2, by omega⟩, h.k, h.o⟩
theorem two_cells {W : World} {g : Nat} {x y : Int} (hg : W.heap[g]? = some (.cells #[.int .u64 x, .int .u64 y] 35 (0, 0))) (j : Nat) (u : Value) (hu : (([x, y] : List Int).flatMap encW)[j]? = some u) : W.cell? ((⟨g, 0, none⟩ : Addr).add j) = some u := by
  match j, hu with
  | 0, hu =>
    have e : u = .int .u64 x := by simpa [encW] using hu.symm
    subst e
    show W.cell? ⟨g, 0, none⟩ = _
    rw [cell_of_blk hg]; rfl
  | 1, hu =>
    have e : u = .int .u64 y := by simpa [encW] using hu.symm
    subst e
    show W.cell? ⟨g, 0 + 1, none⟩ = _
    rw [cell_of_blk hg]; rfl
  | j + 2, hu => simp [encW] at hu
theorem ch_len {xs : List Int} : ∀ {fs : List Fr}, Ch xs fs → fs.length ≤ endF fs
  | [], _ => Nat.le_refl _
  | f :: fs, h => by have := ch_len h.2.2; have := h.2.1; simp only [List.length_cons, endF]; omega
/-- What is asked last: the choice's environments are the current ones again, and tell the same. -/
structure Fin (b : Nat) (c : Cho) (P : Nat → Prop) (B : Nat) (lo : Option Addr) (lc : Nat) (gs : List Gr) (w W : World) : Prop where
  s : ∃ s, Has w.heap.size P b s 5000 100 W ∧ s.cur = c.fs
  k : Kept P B lo lc gs W
  o : Only (fun _ => False) w W
theorem k_back {b d : Nat} {c : Cho} {P : Nat → Prop} {B lc : Nat} {lo : Option Addr} {gs : List Gr} {w W : World} (h : Kp2 b d (d + 1) c P B lo lc gs w W) : Calls Try.prog 18 #[.pointer (some ⟨b, 0, none⟩)] W fun e w' => e = .returned (.int .i64 0) ∧ Fin b c P B lo lc gs w w' := by
  obtain ⟨s, h1, h2, h3⟩ := h.s
  have hl := (List.getElem?_eq_some_iff.1 h2).1
  have hd : s.cs.getLast? = some c := by rw [List.getLast?_eq_getElem?, show s.cs.length - 1 = d by omega]; exact h2
  refine (has_Restore h1 hd).mono ?_
  rintro e w' ⟨rfl, h4, h5⟩
  exact ⟨rfl, ⟨_, h4, rfl⟩, h.k.only h5 (fun k hk e => e.2 hk), Only.zed h.o h5 (Nat.le_refl _)⟩
theorem k_env {b : Nat} {c : Cho} {P : Nat → Prop} {B lc : Nat} {lo : Option Addr} {gs : List Gr} {w W : World} (h : Fin b c P B lo lc gs w W) : Calls Try.prog 15 #[.pointer (some ⟨b, 0, none⟩)] W fun e w' => e = .returned (.int .i64 (headB c.fs)) ∧ w' = W := by
  obtain ⟨s, h1, h2⟩ := h.s
  have := has_Env h1
  rwa [h2] at this
theorem k_chain {b : Nat} {c : Cho} {P : Nat → Prop} {B lc : Nat} {lo : Option Addr} {gs : List Gr} {w W : World} (h : Fin b c P B lo lc gs w W) (hg : gs.map (·.f) = c.fs) : Calls Try.prog 14 #[.pointer (some ⟨b, 0, none⟩), .int .i64 (headB c.fs)] W fun e w' => ∃ lo2 lc2, e = .returned (.slice lo2 c.fs.length lc2) ∧ Only (fun _ => False) w w' ∧ Calls Try.prog 19 #[.slice lo2 c.fs.length lc2, .slice lo c.fs.length lc] w' fun e w'' => e = .returned (.bool true) ∧ Only (fun _ => False) w w'' := by
  obtain ⟨s, h1, h2⟩ := h.s
  have hok := h1.ok
  have hle := h1.le
  have hc := has_Chain h1
  rw [h2] at hc
  have hcur := hok.cur
  rw [h2] at hcur
  refine hc.mono ?_
  rintro e w' ⟨lo2, lc2, gs2, rfl, h3, h4, h5, h6⟩
  have hl2 : gs2.length = c.fs.length := by rw [← h3, List.length_map]
  have hl : gs.length = c.fs.length := by rw [← hg, List.length_map]
  refine ⟨lo2, lc2, rfl, h.o.same h6, ?_⟩
  have hsf := same_frames gs2 gs lo2 lo lc2 lc _ _ w' h4 (h.k.only h6 (fun _ _ e => e)).told (h3.trans hg.symm) (by
    have := ch_len hcur
    have := hcur.end_le
    omega) (fun g hgm => by
    have : g.f ∈ c.fs := by rw [← h3]; exact List.mem_map.2 ⟨g, hgm, rfl⟩
    obtain ⟨p, hp⟩ := hcur.mem_row this
    exact hp.fit.2.2)
  rw [hl2] at hsf
  refine hsf.mono ?_
  rintro e w'' ⟨rfl, ho⟩
  exact ⟨rfl, (h.o.same h6).same ho⟩
set_option maxHeartbeats 16000000 in
theorem law_keeps (a1 : Option Addr) (p1 : Nat) (l1 : List FOp) (a2 : Option Addr) (p2 : Nat) (l2 : List FOp) (w : World) (hA1 : ArgO a1 l1 w) (hA2 : ArgO a2 l2 w) (hm1 : l1.length ≤ maxLen) (hm2 : l2.length ≤ maxLen) :
    Calls Try.prog 4 #[.slice a1 l1.length p1, .slice a2 l2.length p2] w fun e w' => e = .returned (.bool true) ∧ Below w.heap.size w w' := by
  unfold maxLen at hm1 hm2
  have HNW := Lib.hid (has_New 5000 100 w (by decide) (by decide) (by decide) (by decide))
  have HA1 := Lib.hid hA1
  have HA2 := Lib.hid hA2
  clear hA1 hA2
  go_enter Try.func4, Try.ntmps4
  go_wp2_with fail
  refine HNW.out.mono ?_
  rintro e w1 ⟨b, rfl, h1, o1⟩
  have HN1 : Hid (Kp1 b 0 w w1) := Lib.hid ⟨⟨_, h1, Nat.le_refl _⟩, o1⟩
  clear h1 o1 HNW
  go_wp2_with fail
  refine (lives_any _).mono ?_
  rintro e w2 ⟨rfl, ho⟩
  have HN2 : Hid (Kp1 b 0 w w2) := Lib.hid (by obtain ⟨s, h1, h2⟩ := HN1.out.s; exact ⟨⟨s, h1.later ho, h2⟩, HN1.out.o.same ho⟩)
  clear ho HN1
  go_wp2_with fail
  go_loopw [7] (fun i wr => ∃ k : Nat, i = .int .i64 k ∧ k ≤ l1.length ∧ k ≤ 30 ∧ Hid (Kp1 b k w wr)) (fun i _ => l1.length - (intOf i).toNat)
  case atStart => exact ⟨0, rfl, Nat.zero_le _, Nat.zero_le _, HN2⟩
  case round =>
    obtain ⟨k, rfl, hk, hk30, hR⟩ := hrel
    by_cases hlt : k < l1.length ∧ k < 30
    · obtain ⟨hk1, hk2⟩ := hlt
      obtain ⟨x, hx⟩ : ∃ x, l1[k]? = some x := ⟨l1[k], List.getElem?_eq_getElem hk1⟩
      obtain ⟨ab, off, hao, hok, ⟨q0, q1, q2, q3, q4, q5, q6⟩, q7, q8, q9, q10, q11, q12, q13⟩ := arg_cells HA1.out hR.out.o hx
      obtain ⟨s, hs, hsl⟩ := hR.out.s
      have HST := Lib.hid (step_any hs x hok)
      have HSL := Lib.hid hsl
      subst hao
      clear hx hs hsl hok
      obtain ⟨xk, xn, xx, xc0, xc1, y0, yo, yn, yc, y2, y3, y4, y5, y6, y7, y8⟩ := x
      go_wp2_with fail
      refine HST.out.mono ?_
      rintro e w4 ⟨rfl, hw⟩
      have HW := Lib.hid (Kp1.step hR.out.o HSL.out hw)
      clear hw HST
      go_wp2_with fail
      go_roundw
      case rel => exact ⟨k + 1, by go_num, by omega, by omega, HW⟩
      case measure => simp [intOf]; omega
    · obtain ⟨s, hs, hsl⟩ := hR.out.s
      have HS := Lib.hid hs
      have HSL : Hid (s.cs.length < 31) := Lib.hid (by omega)
      have HO := Lib.hid hR.out.o
      have hx : ¬ k < l1.length ∨ (k < l1.length ∧ ¬ k < 30) := by
        by_cases h : k < l1.length
        · exact .inr ⟨h, by omega⟩
        · exact .inl h
      clear hs hsl hR hlt hk30
      obtain ⟨W5, hW5⟩ : ∃ E, E = wr.alloc (.cells #[.int .u64 1, .int .u64 2] 35) := ⟨_, rfl⟩
      have HG : Hid (W5.heap[wr.heap.size]? = some (.cells #[.int .u64 1, .int .u64 2] 35 (0, 0))) := Lib.hid (by rw [hW5]; exact heap_alloc_new _ _)
      have oA : Only (fun _ => False) wr W5 := by rw [hW5]; exact Only.alloc _ _ _
      have HS5 := Lib.hid (HS.out.later oA)
      have HO5 := Lib.hid (HO.out.same oA)
      have HPU := Lib.hid (has_Push HS5.out 2 0 0 0 7 0 0 0 (some ⟨wr.heap.size, 0, none⟩) 2 [1, 2] ⟨fun e => (by cases e), fun ad e j u hu => (by cases e; exact two_cells HG.out j u hu)⟩ (fun ad e => (by cases e; exact lt_of_block HG.out)) (by decide) (by have := HSL.out; omega))
      have HPU2 : Hid (Calls Try.prog 13 #[.pointer (some ⟨b, 0, none⟩), .agg #[.int .i64 2, .slice (some ⟨wr.heap.size, 0, none⟩) 2 2, .int .i64 0, .int .i64 0, .int .i64 0, .int .i64 7, .int .i64 0, .int .i64 0, .int .i64 0]] W5 fun e w' => e = .returned (.int .i64 0) ∧ (∃ c, c.fs = s.cur ∧ Has w.heap.size (fun _ => False) b { s with cs := s.cs ++ [c] } 5000 100 w') ∧ Only (fun _ => False) w w') := Lib.hid (by
        refine HPU.out.mono ?_
        rintro e w' ⟨rfl, ⟨ao', cap', h1⟩, h2⟩
        exact ⟨rfl, ⟨_, rfl, h1⟩, Only.zed HO5.out h2 (Nat.le_refl _)⟩)
      clear oA HPU HG HS5 HO5 HS
      rcases hx with hx | ⟨hx, hx30⟩
      all_goals
        go_upto_region 8 with fail
        clear hx
        go_wp2_with fail
        rw [← hW5]
        refine HPU2.out.mono ?_
        rintro e w6 ⟨rfl, ⟨c, hcf, h6⟩, o6⟩
        have HCF := Lib.hid hcf
        have H6 := Lib.hid h6
        have HO6 := Lib.hid o6
        have HEV : Hid (Calls Try.prog 15 #[.pointer (some ⟨b, 0, none⟩)] w6 fun e w' => e = .returned (.int .i64 (headB c.fs)) ∧ w' = w6) := Lib.hid (by have := has_Env h6; rw [hcf]; exact this)
        have HCH : Hid (Calls Try.prog 14 #[.pointer (some ⟨b, 0, none⟩), .int .i64 (headB c.fs)] w6 fun e w' => ∃ lo lc gs, e = .returned (.slice lo c.fs.length lc) ∧ gs.map (·.f) = c.fs ∧ Told w6.heap.size lo lc gs w' ∧ Has w.heap.size (fun _ => False) b { s with cs := s.cs ++ [c] } 5000 100 w' ∧ Only (fun _ => False) w6 w') := Lib.hid (by have := has_Chain h6; rw [hcf]; exact this)
        clear hcf h6 o6 HPU2
        go_wp2_with fail
        refine HEV.out.mono ?_
        rintro e u ⟨rfl, hu⟩
        obtain rfl : w6 = u := hu.symm
        go_wp2_with fail
        refine HCH.out.mono ?_
        rintro e w7 ⟨lo, lc, gs, rfl, hgm, ht, h7, o7⟩
        have HGM := Lib.hid hgm
        obtain ⟨P, hP⟩ : ∃ P : Nat → Prop, P = fun k => w6.heap.size ≤ k ∧ k < w7.heap.size := ⟨_, rfl⟩
        have hPi : ∀ k, w6.heap.size ≤ k → k < w7.heap.size → P k := fun k a b => by rw [hP]; exact ⟨a, b⟩
        have hHP : Has w.heap.size P b { s with cs := s.cs ++ [c] } 5000 100 w7 := by
          obtain ⟨⟨rb, ao, cap, most, co, cc, hS, own⟩, np, pl⟩ := H6.out.fence o7 P (fun k hk => by rw [hP] at hk; exact hk)
          exact ⟨⟨rb, ao, cap, most, co, cc, hS, fun k hk => ⟨(own k hk).1, fun e => (own k hk).2 (.inr e)⟩⟩, np, fun k hk => pl k (.inr hk)⟩
        have hKT : Kept P w6.heap.size lo lc gs w7 := ⟨ht, fun g hg => hPi _ (ht.row.head g hg).2.1 (ht.row.head g hg).2.2, fun x hx a ha => hPi _ ((ht.ys x hx).head a ha).2.1 ((ht.ys x hx).head a ha).2.2⟩
        obtain ⟨d, hd⟩ : ∃ d, d = s.cs.length := ⟨_, rfl⟩
        have HK0 : Hid (Kp2 b d (d + 1) c P w6.heap.size lo lc gs w w7) := Lib.hid ⟨⟨_, hHP, by rw [hd]; show (s.cs ++ [c])[s.cs.length]? = some c; simp, by rw [hd]; show (s.cs ++ [c]).length ≤ _; simp⟩, hKT, HO6.out.same o7⟩
        have HEV7 : Hid (Calls Try.prog 15 #[.pointer (some ⟨b, 0, none⟩)] w7 fun e w' => e = .returned (.int .i64 (headB c.fs)) ∧ w' = w7) := Lib.hid (by have := has_Env h7; rw [HCF.out]; exact this)
        have HDP7 : Hid (Calls Try.prog 16 #[.pointer (some ⟨b, 0, none⟩)] w7 fun e w' => e = .returned (.int .i64 ((d : Int) + 1)) ∧ w' = w7) := Lib.hid (by
          have := has_Depth h7
          rwa [show (({ s with cs := s.cs ++ [c] } : St).cs.length : Int) = (d : Int) + 1 by rw [hd]; show ((s.cs ++ [c]).length : Int) = _; simp] at this)
        have hd31 : d < 31 := by rw [hd]; exact HSL.out
        clear hgm ht h7 o7 hPi hHP hKT hd hP HEV HCH H6 HO6 HSL HO hW5
        generalize w6.heap.size = B at *
        go_wp2_with fail
        refine HEV7.out.mono ?_
        rintro e u ⟨rfl, hu⟩
        obtain rfl : w7 = u := hu.symm
        go_wp2_with fail
        refine HDP7.out.mono ?_
        rintro e u ⟨rfl, hu⟩
        obtain rfl : w7 = u := hu.symm
        clear HEV7 HDP7
        go_wp2_with fail
        obtain ⟨wo, rfl⟩ : ∃ wo : World, wo = wr := ⟨_, rfl⟩
        go_loopw [11] (fun i wq => ∃ k : Nat, i = .int .i64 k ∧ k ≤ l2.length ∧ k ≤ 30 ∧ Hid (Kp2 b d (d + 1 + k) c P B lo lc gs w wq)) (fun i _ => l2.length - (intOf i).toNat)
        case atStart => exact ⟨0, rfl, Nat.zero_le _, Nat.zero_le _, HK0⟩
        case round =>
          obtain ⟨k2, rfl, hkk, hk30, hQ⟩ := hrel
          by_cases hlt : k2 < l2.length ∧ k2 < 30
          · obtain ⟨hk1, hk2⟩ := hlt
            obtain ⟨x, hx⟩ : ∃ x, l2[k2]? = some x := ⟨l2[k2], List.getElem?_eq_getElem hk1⟩
            obtain ⟨ab, off, hao, hok, ⟨q0, q1, q2, q3, q4, q5, q6⟩, q7, q8, q9, q10, q11, q12, q13⟩ := arg_cells HA2.out hQ.out.o hx
            obtain ⟨s2, hs, hsd, hsl⟩ := hQ.out.s
            have HST := Lib.hid (step_any hs x hok)
            have HDP := Lib.hid (has_Depth hs)
            have HSD := Lib.hid hsd
            have HSN := Lib.hid hsl
            have HKW := Lib.hid (hQ.out.weak (m' := d + 1 + (k2 + 1)) (by omega))
            subst hao
            clear hx hs hok hsd hsl
            obtain ⟨xk, xn, xx, xc0, xc1, y0, yo, yn, yc, y2, y3, y4, y5, y6, y7, y8⟩ := x
            simp only at q0 q1 q2 q3 q4 q5 q6 q7 q8 q9 q10 q11 q12 q13 HST
            by_cases h4 : xk = 4
            · subst h4
              clear HST HDP
              go_wp2_with fail
              go_roundw
              case rel => exact ⟨k2 + 1, by go_num, by omega, by omega, HKW⟩
              case measure => simp [intOf]; omega
            · have e4 : (xk == 4) = false := by simpa using h4
              by_cases h8 : xk = 8
              · subst h8
                clear e4
                by_cases hdl : s2.cs.length ≤ d + 1
                · have hle : decide ((s2.cs.length : Int) ≤ (d : Int) + 1) = true := decide_eq_true (by omega)
                  generalize s2.cs.length = sl at *
                  clear HST
                  go_wp2_with fail
                  refine HDP.out.mono ?_
                  rintro e u ⟨rfl, hu⟩
                  obtain rfl : wr = u := hu.symm
                  go_wp2_with fail
                  go_roundw
                  case rel => exact ⟨k2 + 1, by go_num, by omega, by omega, HKW⟩
                  case measure => simp [intOf]; omega
                · have hle : decide ((s2.cs.length : Int) ≤ (d : Int) + 1) = false := decide_eq_false (by omega)
                  have HGE : Hid (d + 1 < s2.cs.length) := Lib.hid (by omega)
                  generalize hsl2 : s2.cs.length = sl at HDP hle
                  have HSL2 := Lib.hid hsl2
                  clear hsl2 hdl
                  go_wp2_with fail
                  refine HDP.out.mono ?_
                  rintro e u ⟨rfl, hu⟩
                  obtain rfl : wr = u := hu.symm
                  go_wp2_with fail
                  refine HST.out.mono ?_
                  rintro e w9 ⟨rfl, hw⟩
                  have HW := Lib.hid (Kp2.step hQ.out.k hQ.out.o HSD.out HSN.out (by decide) (fun _ => HGE.out) hw)
                  clear hw HST HDP
                  go_wp2_with fail
                  go_roundw
                  case rel => exact ⟨k2 + 1, by go_num, by omega, by omega, HW⟩
                  case measure => simp [intOf]; omega
              · have e8 : (xk == 8) = false := by simpa using h8
                have HX : Hid (xk ≠ 4 ∧ xk ≠ 8) := Lib.hid ⟨h4, h8⟩
                clear h4 h8 HDP
                go_wp2_with fail
                refine HST.out.mono ?_
                rintro e w9 ⟨rfl, hw⟩
                have HW := Lib.hid (Kp2.step hQ.out.k hQ.out.o HSD.out HSN.out HX.out.1 (fun e => absurd e HX.out.2) hw)
                clear hw HST
                go_wp2_with fail
                go_roundw
                case rel => exact ⟨k2 + 1, by go_num, by omega, by omega, HW⟩
                case measure => simp [intOf]; omega
          · have HK2 : Hid (Kp2 b d (d + 31) c P B lo lc gs w wr) := Lib.hid (hQ.out.weak (by omega))
            have hx : ¬ k2 < l2.length ∨ (k2 < l2.length ∧ ¬ k2 < 30) := by
              by_cases h : k2 < l2.length
              · exact .inr ⟨h, by omega⟩
              · exact .inl h
            clear hQ hlt hk30
            rcases hx with hx | ⟨hx, hx30⟩
            all_goals
              go_wp2_with fail
              clear hx
              obtain ⟨wo2, rfl⟩ : ∃ wo2 : World, wo2 = wr := ⟨_, rfl⟩
              go_loopw [12] (fun i wz => ∃ k : Nat, i = .int .i64 k ∧ k ≤ 100 ∧ Hid (Kp2 b d (d + 1 + (30 - k)) c P B lo lc gs w wz)) (fun i _ => 100 - (intOf i).toNat)
              case atStart => exact ⟨0, rfl, Nat.zero_le _, HK2⟩
              case round =>
                obtain ⟨k3, rfl, hk3, hV⟩ := hrel
                have hv : (k3 < 100 ∧ ∃ s3, Hid (Has w.heap.size P b s3 5000 100 wr ∧ s3.cs[d]? = some c ∧ s3.cs.length ≤ d + 1 + (30 - k3) ∧ d + 1 < s3.cs.length)) ∨ (k3 < 100 ∧ ∃ s3, Hid (Has w.heap.size P b s3 5000 100 wr ∧ s3.cs[d]? = some c ∧ s3.cs.length = d + 1)) ∨ (¬ k3 < 100 ∧ Hid (Kp2 b d (d + 1) c P B lo lc gs w wr)) := by
                  by_cases h : k3 < 100
                  · obtain ⟨s3, h1, h2, h3⟩ := hV.out.s
                    have := (List.getElem?_eq_some_iff.1 h2).1
                    by_cases h4 : d + 1 < s3.cs.length
                    · exact .inl ⟨h, s3, Lib.hid ⟨h1, h2, h3, h4⟩⟩
                    · exact .inr (.inl ⟨h, s3, Lib.hid ⟨h1, h2, by omega⟩⟩)
                  · exact .inr (.inr ⟨h, Lib.hid (hV.out.weak (by omega))⟩)
                rcases hv with ⟨hk, s3, H3⟩ | ⟨hk, s3, H3⟩ | ⟨hk, HE⟩
                · have HDP := Lib.hid (has_Depth H3.out.1)
                  have hle : decide ((d : Int) + 1 < (s3.cs.length : Int)) = true := decide_eq_true (by have := H3.out.2.2.2; omega)
                  have HST := Lib.hid (drop_any H3.out.1)
                  have HSL : Hid (s3.cs.length ≤ d + 1 + (30 - k3) ∧ d + 1 < s3.cs.length ∧ s3.cs[d]? = some c) := Lib.hid ⟨H3.out.2.2.1, H3.out.2.2.2, H3.out.2.1⟩
                  generalize hsl3 : s3.cs.length = sl at HDP hle
                  have HSL3 := Lib.hid hsl3
                  clear hsl3 H3
                  go_wp2_with fail
                  refine HDP.out.mono ?_
                  rintro e u ⟨rfl, hu⟩
                  obtain rfl : wr = u := hu.symm
                  go_wp2_with fail
                  refine HST.out.mono ?_
                  rintro e w9 ⟨⟨r, rfl⟩, hw⟩
                  have HW : Hid (Kp2 b d (d + 1 + (30 - (k3 + 1))) c P B lo lc gs w w9) := Lib.hid (by
                    obtain ⟨s', h1, h2⟩ := hw.s
                    obtain ⟨g1, g2, g3⟩ := HSL.out
                    exact ⟨⟨s', h1, by rw [h2, List.getElem?_dropLast, if_pos (by omega)]; exact g3, by rw [h2, List.length_dropLast]; omega⟩, hV.out.k.only hw.o (fun k hk e => e.2 hk), Only.zed hV.out.o hw.o (Nat.le_refl _)⟩)
                  clear hw HST HDP
                  go_wp2_with fail
                  go_roundw
                  case rel => exact ⟨k3 + 1, by go_num, by omega, HW⟩
                  case measure => simp [intOf]; omega
                · have HDP := Lib.hid (has_Depth H3.out.1)
                  have hle : decide ((d : Int) + 1 < (s3.cs.length : Int)) = false := decide_eq_false (by have := H3.out.2.2; omega)
                  have HE : Hid (Kp2 b d (d + 1) c P B lo lc gs w wr) := Lib.hid ⟨⟨s3, H3.out.1, H3.out.2.1, by have := H3.out.2.2; omega⟩, hV.out.k, hV.out.o⟩
                  generalize s3.cs.length = sl at *
                  clear H3
                  go_wp2_with fail
                  refine HDP.out.mono ?_
                  rintro e u ⟨rfl, hu⟩
                  obtain rfl : wr = u := hu.symm
                  clear HDP
                  go_wp2_with fail
                  refine (k_back HE.out).mono ?_
                  rintro e w10 ⟨rfl, hF⟩
                  have HF := Lib.hid hF
                  have hee : (headB c.fs == headB c.fs) = true := by simp
                  clear hF HE
                  go_wp2_with fail
                  refine (k_env HF.out).mono ?_
                  rintro e u ⟨rfl, hu⟩
                  obtain rfl : w10 = u := hu.symm
                  go_wp2_with fail
                  refine (k_chain HF.out HGM.out).mono ?_
                  rintro e w11 ⟨lo2, lc2, rfl, o11, hS⟩
                  have HS2 := Lib.hid hS
                  clear hS o11 HF
                  go_wp2_with fail
                  refine HS2.out.mono ?_
                  rintro e w12 ⟨rfl, o12⟩
                  have HB := Lib.hid o12
                  clear o12 HS2
                  go_wp2_with fail
                  first
                    | exact ⟨rfl, HB.out.to_below⟩
                    | (go_ret; exact ⟨rfl, HB.out.to_below⟩)
                · go_wp2_with fail
                  refine (k_back HE.out).mono ?_
                  rintro e w10 ⟨rfl, hF⟩
                  have HF := Lib.hid hF
                  have hee : (headB c.fs == headB c.fs) = true := by simp
                  clear hF HE
                  go_wp2_with fail
                  refine (k_env HF.out).mono ?_
                  rintro e u ⟨rfl, hu⟩
                  obtain rfl : w10 = u := hu.symm
                  go_wp2_with fail
                  refine (k_chain HF.out HGM.out).mono ?_
                  rintro e w11 ⟨lo2, lc2, rfl, o11, hS⟩
                  have HS2 := Lib.hid hS
                  clear hS o11 HF
                  go_wp2_with fail
                  refine HS2.out.mono ?_
                  rintro e w12 ⟨rfl, o12⟩
                  have HB := Lib.hid o12
                  clear o12 HS2
                  go_wp2_with fail
                  first
                    | exact ⟨rfl, HB.out.to_below⟩
                    | (go_ret; exact ⟨rfl, HB.out.to_below⟩)
end Go.Proofs.Ythfilpacmllhpaa.stk
