/- Environments and choices in memory: a stack whose blocks lie from N on, apart from P; its calls. -/
import Derived.Test.YthfilpacmllhpaaStk10
namespace Go.Proofs.Ythfilpacmllhpaa.stk
set_option maxRecDepth 100000
open Go.RowKit Go.Proofs.Ythfilpacmllhpaa.own
open Go.Proofs.Ythfilpacmllhpaa.rooms (RoomP IsRoom)
/-- The blocks that a stack may turn. -/
def Z (N : Nat) (P : Nat → Prop) (k : Nat) : Prop := N ≤ k ∧ ¬ P k
def Own (b rb : Nat) (ao co : Option Addr) (cs : List Cho) (k : Nat) : Prop := k = b ∨ rooms.Mine rb ao k ∨ RowAt co k ∨ ∃ c ∈ cs, RowAt c.ao k
structure Has (N : Nat) (P : Nat → Prop) (b : Nat) (s : St) (wl lim : Int) (w : World) : Prop where
  ex : ∃ rb ao cap most co cc, Stk b rb ao cap most co cc s wl lim w ∧ ∀ k, Own b rb ao co s.cs k → Z N P k
  np : N ≤ w.heap.size
  pl : ∀ k, P k → k < w.heap.size
section
variable {N : Nat} {P : Nat → Prop} {b : Nat} {s : St} {wl lim : Int} {w w' : World}
theorem Has.new (h : Has N P b s wl lim w) {k : Nat} (hk : w.heap.size ≤ k) : Z N P k := ⟨Nat.le_trans h.np hk, fun e => by have := h.pl k e; omega⟩
theorem Has.ok (h : Has N P b s wl lim w) : s.Ok := by obtain ⟨_, _, _, _, _, _, hS, _⟩ := h.ex; exact hS.ok
theorem Has.le (h : Has N P b s wl lim w) : (s.xs.length : Int) ≤ wl ∧ wl ≤ 1048576 := by obtain ⟨_, _, _, _, _, _, hS, _⟩ := h.ex; exact hS.le
theorem Has.chl (h : Has N P b s wl lim w) : (s.cs.length : Int) ≤ lim ∧ lim ≤ 4095 := by obtain ⟨_, _, _, _, _, _, hS, _⟩ := h.ex; exact hS.ch
theorem Has.lt (h : Has N P b s wl lim w) : b < w.heap.size := by obtain ⟨_, _, _, _, _, _, hS, _⟩ := h.ex; exact hS.box.lt
theorem Has.later (h : Has N P b s wl lim w) (ho : Only (fun _ => False) w w') : Has N P b s wl lim w' := by
  obtain ⟨rb, ao, cap, most, co, cc, hS, own⟩ := h.ex
  exact ⟨⟨rb, ao, cap, most, co, cc, hS.later ho, own⟩, Nat.le_trans h.np ho.size, fun k hk => Nat.lt_of_lt_of_le (h.pl k hk) ho.size⟩
/-- What was made since is kept apart. -/
theorem Has.fence (h : Has N P b s wl lim w) (ho : Only (fun _ => False) w w') (Q : Nat → Prop) (hq : ∀ k, Q k → w.heap.size ≤ k ∧ k < w'.heap.size) : Has N (fun k => P k ∨ Q k) b s wl lim w' := by
  obtain ⟨rb, ao, cap, most, co, cc, hS, own⟩ := h.ex
  refine ⟨⟨rb, ao, cap, most, co, cc, hS.later ho, fun k hk => ⟨(own k hk).1, fun e => e.elim (own k hk).2 (fun q => ?_)⟩⟩, Nat.le_trans h.np ho.size, fun k e => e.elim (fun q => Nat.lt_of_lt_of_le (h.pl k q) ho.size) (fun q => (hq k q).2)⟩
  have h1 : k < w.heap.size := by
    rcases hk with e | e | ⟨g, hg, e⟩ | ⟨c, hc, g, hg, e⟩
    · rw [e]; exact hS.box.lt
    · exact (hS.room.mine_lt k e).2
    · rw [e]; exact (hS.row.head g hg).2.2
    · rw [e]; exact ((hS.args c hc).1.head g hg).2.2
  have := (hq k q).1
  omega
/-- More is kept apart: blocks that are not the stack's. -/
theorem Has.guard (h : Has N P b s wl lim w) (Q : Nat → Prop) (hq : ∀ k, Q k → k < w.heap.size) (hn : ∀ rb ao co cap most cc, Stk b rb ao cap most co cc s wl lim w → ∀ k, Own b rb ao co s.cs k → ¬ Q k) : Has N (fun k => P k ∨ Q k) b s wl lim w := by
  obtain ⟨rb, ao, cap, most, co, cc, hS, own⟩ := h.ex
  exact ⟨⟨rb, ao, cap, most, co, cc, hS, fun k hk => ⟨(own k hk).1, fun e => e.elim (own k hk).2 (hn rb ao co cap most cc hS k hk)⟩⟩, h.np, fun k e => e.elim (h.pl k) (hq k)⟩
theorem own_lt {rb : Nat} {ao co : Option Addr} {cap cc : Nat} {most : Int} (hS : Stk b rb ao cap most co cc s wl lim w) : ∀ k, Own b rb ao co s.cs k → k < w.heap.size := by
  rintro k (e | e | ⟨g, hg, e⟩ | ⟨c, hc, g, hg, e⟩)
  · rw [e]; exact hS.box.lt
  · exact (hS.room.mine_lt k e).2
  · rw [e]; exact (hS.row.head g hg).2.2
  · rw [e]; exact ((hS.args c hc).1.head g hg).2.2
theorem has_New (n m : Int) (w : World) (h0 : 0 ≤ m) (h1 : m ≤ 4095) (h2 : 0 ≤ n) (h3 : n ≤ 1048576) : Calls Try.prog 7 #[.int .i64 n, .int .i64 m] w fun e w' => ∃ b, e = .returned (.tuple #[.pointer (some ⟨b, 0, none⟩), .int .i64 0]) ∧ Has w.heap.size (fun _ => False) b st0 n m w' ∧ Only (fun _ => False) w w' := by
  refine (New_yes n m w h0 h1 h2 h3).mono ?_
  rintro e w' ⟨b, rb, rfl, hS, ho, hb, hr, _, _⟩
  refine ⟨b, rfl, ⟨⟨rb, none, 0, 0, none, 0, hS, ?_⟩, ho.size, fun k e => e.elim⟩, ho⟩
  rintro k (e | (e | ⟨g, hg, _⟩) | ⟨g, hg, _⟩ | ⟨c, hc, _⟩)
  · exact ⟨by omega, fun e => e⟩
  · exact ⟨by omega, fun e => e⟩
  · cases hg
  · cases hg
  · simp [st0] at hc
theorem has_Alloc_bad (h : Has N P b s wl lim w) (n x y : Int) (hn : n < 0 ∨ 64 < n) : Calls Try.prog 26 #[.pointer (some ⟨b, 0, none⟩), .int .i64 n, .agg #[.int .i64 x, .int .i64 y]] w fun e w' => e = .returned (.int .i64 1) ∧ Has N P b s wl lim w' ∧ Only (fun _ => False) w w' := by
  obtain ⟨rb, ao, cap, most, co, cc, hS, own⟩ := h.ex
  refine (Alloc_arg hS n x y hn).mono ?_
  rintro e w' ⟨rfl, ho⟩
  exact ⟨rfl, h.later ho, ho⟩
theorem has_Alloc_full (h : Has N P b s wl lim w) (n : Nat) (x y : Int) (hn : n ≤ 64) (hf : wl < (s.top : Int) + 4 + (n : Int)) : Calls Try.prog 26 #[.pointer (some ⟨b, 0, none⟩), .int .i64 n, .agg #[.int .i64 x, .int .i64 y]] w fun e w' => e = .returned (.int .i64 2) ∧ Has N P b s wl lim w' ∧ Only (fun _ => False) w w' := by
  obtain ⟨rb, ao, cap, most, co, cc, hS, own⟩ := h.ex
  refine (Alloc_full hS n x y hn hf).mono ?_
  rintro e w' ⟨rfl, ho⟩
  exact ⟨rfl, h.later ho, ho⟩
/-- What Alloc makes. -/
def St.made (s : St) (n : Nat) (x y : Int) : St := { s with xs := allocW s.xs s.top (headB s.cur) x y n, cur := ⟨s.top, List.replicate n 0, x, y⟩ :: s.cur }
theorem has_Alloc (h : Has N P b s wl lim w) (n : Nat) (x y : Int) (hx : Fits x) (hy : Fits y) (hn : n ≤ 64) (hf : (s.top : Int) + 4 + (n : Int) ≤ wl) : Calls Try.prog 26 #[.pointer (some ⟨b, 0, none⟩), .int .i64 n, .agg #[.int .i64 x, .int .i64 y]] w fun e w' => e = .returned (.int .i64 0) ∧ Has N P b (s.made n x y) wl lim w' ∧ Only (Z N P) w w' := by
  obtain ⟨rb, ao, cap, most, co, cc, hS, own⟩ := h.ex
  refine (Alloc_yes hS n x y hx hy hn hf).mono ?_
  rintro e w' ⟨rfl, ao', cap', most', h1, h2, h3⟩
  refine ⟨rfl, ⟨⟨rb, ao', cap', most', co, cc, h1, ?_⟩, Nat.le_trans h.np h2.size, fun k hk => Nat.lt_of_lt_of_le (h.pl k hk) h2.size⟩, h2.mono (fun k _ e => own k (e.imp id .inl))⟩
  rintro k (e | (e | ⟨g, hg, e⟩) | e)
  · exact own k (.inl e)
  · exact own k (.inr (.inl (.inl e)))
  · rcases h3 g hg with q | q
    · exact own k (.inr (.inl (.inr ⟨g, q, e⟩)))
    · exact h.new (by rw [e]; exact q)
  · exact own k (.inr (.inr e))
theorem has_Dealloc_none (h : Has N P b s wl lim w) (hn : s.cur = []) : Calls Try.prog 20 #[.pointer (some ⟨b, 0, none⟩)] w fun e w' => e = .returned (.tuple #[.agg #[.int .i64 0, .int .i64 0], .int .i64 4]) ∧ Has N P b s wl lim w' ∧ Only (fun _ => False) w w' := by
  obtain ⟨rb, ao, cap, most, co, cc, hS, own⟩ := h.ex
  refine (Dealloc_none hS hn).mono ?_
  rintro e w' ⟨rfl, ho⟩
  exact ⟨rfl, h.later ho, ho⟩
theorem Has.same {s2 : St} {rb : Nat} {ao co : Option Addr} {cap cc : Nat} {most : Int} {T : Nat → Prop} (h : Has N P b s wl lim w) (own : ∀ k, Own b rb ao co s.cs k → Z N P k) (hS : Stk b rb ao cap most co cc s2 wl lim w') (hc : ∀ k, (∃ c ∈ s2.cs, RowAt c.ao k) → ∃ c ∈ s.cs, RowAt c.ao k) (ho : Only T w w') (hT : ∀ k, T k → Own b rb ao co s.cs k) : Has N P b s2 wl lim w' ∧ Only (Z N P) w w' := by
  refine ⟨⟨⟨rb, ao, cap, most, co, cc, hS, ?_⟩, Nat.le_trans h.np ho.size, fun k hk => Nat.lt_of_lt_of_le (h.pl k hk) ho.size⟩, ho.mono (fun k _ e => own k (hT k e))⟩
  rintro k (e | e | e | e)
  · exact own k (.inl e)
  · exact own k (.inr (.inl e))
  · exact own k (.inr (.inr (.inl e)))
  · exact own k (.inr (.inr (.inr (hc k e))))
theorem has_Dealloc (h : Has N P b s wl lim w) {f : Fr} {fs : List Fr} (hn : s.cur = f :: fs) : Calls Try.prog 20 #[.pointer (some ⟨b, 0, none⟩)] w fun e w' => e = .returned (.tuple #[.agg #[.int .i64 f.cl, .int .i64 f.at'], .int .i64 0]) ∧ Has N P b { s with cur := fs } wl lim w' ∧ Only (Z N P) w w' := by
  obtain ⟨rb, ao, cap, most, co, cc, hS, own⟩ := h.ex
  refine (Dealloc_some hS hn).mono ?_
  rintro e w' ⟨rfl, h1, h2⟩
  exact ⟨rfl, h.same own h1 (fun k e => e) h2 (fun k e => .inl e)⟩
theorem has_Set_no (h : Has N P b s wl lim w) (i x : Int) (hi : i < 1 ∨ (slotsF s.cur : Int) < i) : Calls Try.prog 27 #[.pointer (some ⟨b, 0, none⟩), .int .i64 i, .int .u64 x] w fun e w' => e = .returned (.int .i64 4) ∧ w' = w := by
  obtain ⟨rb, ao, cap, most, co, cc, hS, own⟩ := h.ex
  exact Set_no hS i x hi
theorem has_Set (h : Has N P b s wl lim w) {f : Fr} {fs : List Fr} (hn : s.cur = f :: fs) (i : Nat) (hi : i < f.ys.length) (x : Int) : Calls Try.prog 27 #[.pointer (some ⟨b, 0, none⟩), .int .i64 ((i : Int) + 1), .int .u64 x] w fun e w' => e = .returned (.int .i64 0) ∧ Has N P b (s.put f.base i x) wl lim w' ∧ Only (Z N P) w w' := by
  obtain ⟨rb, ao, cap, most, co, cc, hS, own⟩ := h.ex
  refine (Set_yes hS hn i hi x).mono ?_
  rintro e w' ⟨rfl, h1, h2⟩
  refine ⟨rfl, h.same own h1 (fun k e => ?_) h2 (fun k e => .inr (.inl (.inr e)))⟩
  obtain ⟨c, hc, e⟩ := e
  obtain ⟨c0, hc0, rfl⟩ := List.mem_map.1 hc
  exact ⟨c0, hc0, e⟩
theorem has_Get (h : Has N P b s wl lim w) {f : Fr} {fs : List Fr} (hn : s.cur = f :: fs) (i : Nat) (hi : i < f.ys.length) : Calls Try.prog 21 #[.pointer (some ⟨b, 0, none⟩), .int .i64 ((i : Int) + 1)] w fun e w' => e = .returned (.tuple #[.int .u64 (f.ys.getD i 0), .int .i64 0]) ∧ Has N P b s wl lim w' ∧ Only (fun _ => False) w w' := by
  obtain ⟨rb, ao, cap, most, co, cc, hS, own⟩ := h.ex
  refine (Get_yes hS hn i hi).mono ?_
  rintro e w' ⟨rfl, ho⟩
  exact ⟨rfl, h.later ho, ho⟩
theorem has_Trim_no (h : Has N P b s wl lim w) (n : Int) (hn : s.cur = [] ∨ ∃ f fs, s.cur = f :: fs ∧ (f.base < topOf s.cs ∨ n < 0 ∨ (f.ys.length : Int) < n)) : Calls Try.prog 28 #[.pointer (some ⟨b, 0, none⟩), .int .i64 n] w fun e w' => e = .returned (.bool false) ∧ Has N P b s wl lim w' ∧ Only (fun _ => False) w w' := by
  obtain ⟨rb, ao, cap, most, co, cc, hS, own⟩ := h.ex
  have key : Calls Try.prog 28 #[.pointer (some ⟨b, 0, none⟩), .int .i64 n] w fun e w' => e = .returned (.bool false) ∧ Only (fun _ => False) w w' := by
    rcases hn with hn | ⟨f, fs, hn, hc⟩
    · exact Trim_none hS n hn
    · by_cases hk : f.base < topOf s.cs
      · exact Trim_kept hS n hn hk
      · exact Trim_out hS n hn (by omega) (by omega)
  refine key.mono ?_
  rintro e w' ⟨rfl, ho⟩
  exact ⟨rfl, h.later ho, ho⟩
theorem has_Trim (h : Has N P b s wl lim w) (n : Nat) {f : Fr} {fs : List Fr} (hn : s.cur = f :: fs) (hk : topOf s.cs ≤ f.base) (hr : n ≤ f.ys.length) : Calls Try.prog 28 #[.pointer (some ⟨b, 0, none⟩), .int .i64 n] w fun e w' => e = .returned (.bool true) ∧ Has N P b { s with xs := s.xs.set (f.base + 3) (uw n), cur := { f with ys := f.ys.take n } :: fs } wl lim w' ∧ Only (Z N P) w w' := by
  obtain ⟨rb, ao, cap, most, co, cc, hS, own⟩ := h.ex
  refine (Trim_yes hS n hn hk hr).mono ?_
  rintro e w' ⟨rfl, h1, h2⟩
  exact ⟨rfl, h.same own h1 (fun k e => e) h2 (fun k e => .inr (.inl (.inr e)))⟩
theorem has_Push_full (h : Has N P b s wl lim w) (y0 y2 y3 y4 y5 y6 y7 y8 : Int) (so : Option Addr) (sn sc : Nat) (hf : lim ≤ (s.cs.length : Int)) : Calls Try.prog 13 #[.pointer (some ⟨b, 0, none⟩), .agg #[.int .i64 y0, .slice so sn sc, .int .i64 y2, .int .i64 y3, .int .i64 y4, .int .i64 y5, .int .i64 y6, .int .i64 y7, .int .i64 y8]] w fun e w' => e = .returned (.int .i64 2) ∧ Has N P b s wl lim w' ∧ Only (fun _ => False) w w' := by
  obtain ⟨rb, ao, cap, most, co, cc, hS, own⟩ := h.ex
  refine (Push_full hS y0 y2 y3 y4 y5 y6 y7 y8 so sn sc hf).mono ?_
  rintro e w' ⟨rfl, ho⟩
  exact ⟨rfl, h.later ho, ho⟩
theorem has_Push (h : Has N P b s wl lim w) (y0 y2 y3 y4 y5 y6 y7 y8 : Int) (so : Option Addr) (sc : Nat) (args : List Int) (hs : SrcOf encW w so args) (hsb : ∀ ad, so = some ad → ad.block < w.heap.size) (hal : args.length ≤ 16777216) (hf : (s.cs.length : Int) < lim) :
    Calls Try.prog 13 #[.pointer (some ⟨b, 0, none⟩), .agg #[.int .i64 y0, .slice so args.length sc, .int .i64 y2, .int .i64 y3, .int .i64 y4, .int .i64 y5, .int .i64 y6, .int .i64 y7, .int .i64 y8]] w fun e w' => e = .returned (.int .i64 0) ∧
      (∃ ao' cap', Has N P b { s with cs := s.cs ++ [⟨y0, ao', cap', args, y2, y3, y4, y5, y6, headB s.cur, s.top, s.cur⟩] } wl lim w') ∧ Only (Z N P) w w' := by
  obtain ⟨rb, ao, cap, most, co, cc, hS, own⟩ := h.ex
  refine (Push_yes hS y0 y2 y3 y4 y5 y6 y7 y8 so sc args hs hsb hal hf).mono ?_
  rintro e w' ⟨rfl, ao', cap', co', cc', h1, h2, h3, h4⟩
  refine ⟨rfl, ⟨ao', cap', ⟨rb, ao, cap, most, co', cc', h1, ?_⟩, Nat.le_trans h.np h2.size, fun k hk => Nat.lt_of_lt_of_le (h.pl k hk) h2.size⟩, h2.mono (fun k _ e => own k (e.imp id (fun q => .inr (.inl q))))⟩
  rintro k (e | e | ⟨g, hg, e⟩ | ⟨c, hc, g, hg, e⟩)
  · exact own k (.inl e)
  · exact own k (.inr (.inl e))
  · rcases h3 g hg with q | q
    · exact own k (.inr (.inr (.inl ⟨g, q, e⟩)))
    · exact h.new (by rw [e]; exact q)
  · rcases List.mem_append.1 hc with hc | hc
    · exact own k (.inr (.inr (.inr ⟨c, hc, g, hg, e⟩)))
    · rw [List.mem_singleton.1 hc] at hg
      exact h.new (by rw [e]; exact h4 g hg)
theorem has_Drop_none (h : Has N P b s wl lim w) (hn : s.cs = []) : Calls Try.prog 17 #[.pointer (some ⟨b, 0, none⟩)] w fun e w' => e = .returned (.int .i64 4) ∧ Has N P b s wl lim w' ∧ Only (fun _ => False) w w' := by
  obtain ⟨rb, ao, cap, most, co, cc, hS, own⟩ := h.ex
  refine (Drop_none hS hn).mono ?_
  rintro e w' ⟨rfl, ho⟩
  exact ⟨rfl, h.later ho, ho⟩
theorem has_Drop (h : Has N P b s wl lim w) (hn : s.cs ≠ []) : Calls Try.prog 17 #[.pointer (some ⟨b, 0, none⟩)] w fun e w' => e = .returned (.int .i64 0) ∧ Has N P b { s with cs := s.cs.dropLast } wl lim w' ∧ Only (Z N P) w w' := by
  obtain ⟨rb, ao, cap, most, co, cc, hS, own⟩ := h.ex
  refine (Drop_some hS hn).mono ?_
  rintro e w' ⟨rfl, h1, h2⟩
  refine ⟨rfl, h.same own h1 (fun k ⟨c, hc, e⟩ => ⟨c, List.dropLast_subset _ hc, e⟩) h2 (fun k e => e.imp id (fun q => .inr (.inl q)))⟩
theorem has_Restore_none (h : Has N P b s wl lim w) (hn : s.cs = []) : Calls Try.prog 18 #[.pointer (some ⟨b, 0, none⟩)] w fun e w' => e = .returned (.int .i64 4) ∧ Has N P b s wl lim w' ∧ Only (fun _ => False) w w' := by
  obtain ⟨rb, ao, cap, most, co, cc, hS, own⟩ := h.ex
  refine (Restore_none hS hn).mono ?_
  rintro e w' ⟨rfl, ho⟩
  exact ⟨rfl, h.later ho, ho⟩
theorem has_Restore (h : Has N P b s wl lim w) {d : Cho} (hd : s.cs.getLast? = some d) : Calls Try.prog 18 #[.pointer (some ⟨b, 0, none⟩)] w fun e w' => e = .returned (.int .i64 0) ∧ Has N P b { s with cur := d.fs } wl lim w' ∧ Only (Z N P) w w' := by
  obtain ⟨rb, ao, cap, most, co, cc, hS, own⟩ := h.ex
  refine (Restore_some hS hd).mono ?_
  rintro e w' ⟨rfl, h1, h2⟩
  exact ⟨rfl, h.same own h1 (fun k e => e) h2 (fun k e => .inl e)⟩
theorem has_Turn (h : Has N P b s wl lim w) {l : List Cho} {d : Cho} (hl : s.cs = l ++ [d]) (x : Int) : Calls Try.prog 30 #[.pointer (some ⟨b, 0, none⟩), .int .i64 x] w fun e w' => e = .returned (.int .i64 0) ∧ Has N P b { s with cs := l ++ [{ d with n := x }] } wl lim w' ∧ Only (Z N P) w w' := by
  obtain ⟨rb, ao, cap, most, co, cc, hS, own⟩ := h.ex
  refine (Turn_some hS hl x).mono ?_
  rintro e w' ⟨rfl, h1, h2⟩
  refine ⟨rfl, h.same own h1 (fun k ⟨c, hc, e⟩ => ?_) h2 (fun k e => .inr (.inr (.inl e)))⟩
  rcases List.mem_append.1 hc with hc | hc
  · exact ⟨c, by rw [hl]; exact List.mem_append_left _ hc, e⟩
  · rw [List.mem_singleton.1 hc] at e
    exact ⟨d, by rw [hl]; simp, e⟩
theorem has_Last (h : Has N P b s wl lim w) {l : List Cho} {c : Cho} (hl : s.cs = l ++ [c]) (hal : c.args.length ≤ 16777216) : Calls Try.prog 22 #[.pointer (some ⟨b, 0, none⟩)] w fun e w' => ∃ ao' cap', e = .returned (.tuple #[.agg #[.int .i64 c.k, .slice ao' c.args.length cap', .int .i64 c.c, .int .i64 c.a, .int .i64 c.g, .int .i64 c.n, .int .i64 c.f, .int .i64 c.env, .int .i64 c.top], .bool true]) ∧ Has N P b s wl lim w' ∧ Only (fun _ => False) w w' := by
  obtain ⟨rb, ao, cap, most, co, cc, hS, own⟩ := h.ex
  refine (Last_some hS hl hal).mono ?_
  rintro e w' ⟨ao', cap', rfl, _, ho⟩
  exact ⟨ao', cap', rfl, h.later ho, ho⟩
theorem has_Env (h : Has N P b s wl lim w) : Calls Try.prog 15 #[.pointer (some ⟨b, 0, none⟩)] w fun e w' => e = .returned (.int .i64 (headB s.cur)) ∧ w' = w := by
  obtain ⟨rb, ao, cap, most, co, cc, hS, own⟩ := h.ex
  exact Env_any hS
theorem has_Depth (h : Has N P b s wl lim w) : Calls Try.prog 16 #[.pointer (some ⟨b, 0, none⟩)] w fun e w' => e = .returned (.int .i64 s.cs.length) ∧ w' = w := by
  obtain ⟨rb, ao, cap, most, co, cc, hS, own⟩ := h.ex
  exact Depth_any hS
theorem has_Slots (h : Has N P b s wl lim w) : Calls Try.prog 29 #[.pointer (some ⟨b, 0, none⟩)] w fun e w' => e = .returned (.int .i64 (slotsF s.cur)) ∧ w' = w := by
  obtain ⟨rb, ao, cap, most, co, cc, hS, own⟩ := h.ex
  exact Slots_any hS
theorem has_Chain (h : Has N P b s wl lim w) : Calls Try.prog 14 #[.pointer (some ⟨b, 0, none⟩), .int .i64 (headB s.cur)] w fun e w' => ∃ lo lc gs, e = .returned (.slice lo s.cur.length lc) ∧ gs.map (·.f) = s.cur ∧ Told w.heap.size lo lc gs w' ∧ Has N P b s wl lim w' ∧ Only (fun _ => False) w w' := by
  obtain ⟨rb, ao, cap, most, co, cc, hS, own⟩ := h.ex
  refine (Chain_cur hS).mono ?_
  rintro e w' ⟨lo, lc, gs, rfl, h1, h2, ho⟩
  exact ⟨lo, lc, gs, rfl, h1, h2, h.later ho, ho⟩
end
end Go.Proofs.Ythfilpacmllhpaa.stk
