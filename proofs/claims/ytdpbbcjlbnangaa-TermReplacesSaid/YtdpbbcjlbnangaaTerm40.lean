/- Terms: a list's items, from behind. -/
import Derived.RangeFuncNested
import Derived.RangeFuncBound
import Derived.RangeFuncCalls
import Derived.RangeFuncLeaves
import Derived.Shelf.Abstract
import Derived.OwnWalkIn
import Derived.TacticsInMore
import Derived.LoopNIn
import Derived.LoopIn
import Derived.Test.YtdpbbcjlbnangaaTermE
namespace Go.Proofs.Ytdpbbcjlbnangaa.terms
open Go.RowKit Go.Proofs.Ytdpbbcjlbnangaa.own Go.Maps Go.Shelf
attribute [local go_sem] Oper.semAt_some
/-- An item of a list that lies, with its place. -/
structure El (P : Nat → Prop) (w0 : World) where
  i : Nat
  t : T
  ao : Option Addr
  cap : Nat
  row : Row P w0 ao t.l
  sane : t.Sane
abbrev El.enc {P : Nat → Prop} {w0 : World} (x : El P w0) : Array Value := #[.int .i64 (x.i : Int), .agg #[.int .i64 x.t.k, .int .i64 x.t.n, .string x.t.s, .slice x.ao x.t.l.length x.cap]]
/-- The items of a list, the last one first, lie in W, where nothing of S is. -/
structure Els {P : Nat → Prop} {w0 : World} (S : Nat → Prop) (b off len : Nat) (zs : List (El P w0)) (W : World) : Prop where
  lt : b < W.heap.size
  out : ¬ S b
  many : zs.length = len
  at_ : ∀ (k : Nat) (x : El P w0), zs[k]? = some x → x.i = len - 1 - k ∧ W.cell? ⟨b, off + (len - 1 - k) * 4, none⟩ = some (.int .i64 x.t.k) ∧ W.cell? ⟨b, off + (len - 1 - k) * 4 + 1, none⟩ = some (.int .i64 x.t.n) ∧ W.cell? ⟨b, off + (len - 1 - k) * 4 + 2, none⟩ = some (.string x.t.s) ∧ W.cell? ⟨b, off + (len - 1 - k) * 4 + 3, none⟩ = some (.slice x.ao x.t.l.length x.cap)
theorem Els.only {P : Nat → Prop} {w0 : World} {S : Nat → Prop} {b off len : Nat} {zs : List (El P w0)} {W W' : World} (h : Els S b off len zs W) (ho : Only S W W') : Els S b off len zs W' :=
  ⟨Nat.lt_of_lt_of_le h.lt ho.size, h.out, h.many, fun k x hx => by
    obtain ⟨h1, h2, h3, h4, h5⟩ := h.at_ k x hx
    exact ⟨h1, (ho.cell (p := ⟨b, _, none⟩) h.lt h.out).trans h2, (ho.cell (p := ⟨b, _, none⟩) h.lt h.out).trans h3, (ho.cell (p := ⟨b, _, none⟩) h.lt h.out).trans h4, (ho.cell (p := ⟨b, _, none⟩) h.lt h.out).trans h5⟩⟩
set_option maxRecDepth 100000 in
set_option maxHeartbeats 2000000 in
theorem backward_any (a : Option Addr) (len cap : Nat) (w : World) :
    Calls Try.prog 48 #[.slice a len cap] w fun e w' => e = .returned (.func (.func 68) #[] #[.pointer (some ⟨w.heap.size, 0, none⟩)]) ∧ w' = w.alloc (.cells #[.slice a len cap] 22) := by
  go_enter Try.func48, Try.ntmps48
  go_wp2_with fail
  go_ret
  exact ⟨rfl, rfl⟩
set_option maxRecDepth 100000 in
set_option maxHeartbeats 2000000 in
theorem backward1_in {P : Nat → Prop} {w0 : World} (n : Nat) (hn : 1 ≤ n) (l Bs b off len cap : Nat) (S : Nat → Prop) (zs : List (El P w0)) (hlen : len ≤ 1000000) (J Jx : List (El P w0) → World → Prop)
    (hY : ∀ pre x W, J pre W → pre.length < len → YieldAt Fence.wide (n - 1) Try.prog l x.enc W fun e W' =>
      (e = .returned (.bool true) ∧ J (pre ++ [x]) W' ∧ Only S W W') ∨ (e = .returned (.bool false) ∧ Jx (pre ++ [x]) W'))
    (W : World) (hBs : W.cell? ⟨Bs, 0, none⟩ = some (.slice (some ⟨b, off, none⟩) len cap)) (hbs : Bs < W.heap.size ∧ ¬ S Bs) (hc : Els S b off len zs W) (h0 : J [] W) :
    CallsIn Fence.wide n Try.prog 68 #[.func (.yield l) #[] #[], .pointer (some ⟨Bs, 0, none⟩)] W fun e W' => (∃ v, e = .returned v) ∧
      ((∃ ys, ys = zs ∧ J ys W') ∨ (∃ pre, pre <+: zs ∧ Jx pre W')) := by
  have HC := Lib.hid hc
  have HB := Lib.hid hBs
  have hw0 : IntKind.i64.wrap ((len : Int) - 1) = (len : Int) - 1 := IntWalk.i64_in _ (by omega)
  refine callsIn_of_wp Try.func68 rfl trivial ?_ rfl
  simp only [Try.ntmps68, List.size_toArray, List.length_cons, List.length_nil, Nat.reduceAdd, Nat.reduceSub, Array.replicate_succ, Array.replicate_zero, List.push_toArray, List.append_toArray, List.nil_append, List.cons_append]
  clear hc
  gi_wp2
  have HST : Hid (J (zs.take 0) W) := Lib.hid (by simpa using h0)
  clear h0 hBs
  gi_loopw [3] (fun i wr => ∃ k : Nat, k ≤ len ∧ i = .int .i64 ((len : Int) - 1 - (k : Int)) ∧ Hid (J (zs.take k) wr ∧ Only S W wr))
    (fun i _ => ((intOf i) + 1).toNat)
  case atStart => exact ⟨0, Nat.zero_le _, by simp, Lib.hid ⟨HST.out, Only.refl _ _⟩⟩
  case round =>
    obtain ⟨k, hk, rfl, hJs⟩ := hrel
    clear HST hw0
    have hbx : wr.cell? ⟨Bs, 0, none⟩ = some (.slice (some ⟨b, off, none⟩) len cap) := (hJs.out.2.cell (p := ⟨Bs, 0, none⟩) hbs.1 hbs.2).trans HB.out
    by_cases hlt : k < len
    · obtain ⟨x, hx⟩ : ∃ x, zs[k]? = some x := ⟨_, List.getElem?_eq_getElem (by rw [HC.out.many]; exact hlt)⟩
      obtain ⟨hxi, c0, c1, c2, c3⟩ := (HC.out.only hJs.out.2).at_ k x hx
      obtain ⟨j, hj⟩ : ∃ j, len = j + 1 + k := ⟨len - 1 - k, by omega⟩
      have hij : (len : Int) - 1 - (k : Int) = (j : Int) := by omega
      have hjn : len - 1 - k = j := by omega
      rw [hjn] at hxi c0 c1 c2 c3
      have HTK : Hid (zs.take (k + 1) = zs.take k ++ [x]) := Lib.hid (take_snoc hx)
      obtain ⟨fn, tmps, assign, body, hy, hR⟩ := hY _ x wr hJs.out.1 (by rw [List.length_take, HC.out.many]; omega)
      rw [← HTK.out] at hR
      simp only [El.enc, hxi] at hy
      have hjl : (j : Int) < (len : Int) := by omega
      have hj0 : (0 : Int) ≤ (j : Int) := by omega
      have hw1 : IntKind.i64.wrap ((j : Int) - 1) = (j : Int) - 1 := IntWalk.i64_in _ (by omega)
      have HN : Hid (len = j + 1 + k) := Lib.hid hj
      rw [hij]
      clear hx hj hij hjn hk hlt HTK
      gi_wp2
      refine hR.mono ?_
      rintro e W3 (⟨rfl, hJ3, hk3⟩ | ⟨rfl, hJx3⟩)
      · have HJ3 := Lib.hid hJ3
        have HK3 := Lib.hid hk3
        clear hJ3 hk3
        gi_wp2
        go_roundw
        case rel => exact ⟨k + 1, by have := HN.out; omega, by have := HN.out; congr 1; omega, Lib.hid ⟨HJ3.out, hJs.out.2.same HK3.out⟩⟩
        case measure => first | (simp [intOf]; done) | (simp [intOf]; omega)
      · gi_wp2
        refine bodyPost_ret (results_none rfl _ _ _) rfl ?_
        exact ⟨⟨_, rfl⟩, .inr ⟨_, List.take_prefix _ _, hJx3⟩⟩
    · obtain rfl : k = len := by omega
      have HT : Hid (zs.take k = zs) := Lib.hid (by rw [← HC.out.many, List.take_length])
      have hij : (k : Int) - 1 - (k : Int) = -1 := by omega
      rw [hij]
      gi_wp2
      go_end0
      exact ⟨⟨_, rfl⟩, .inl ⟨zs, rfl, by have h1 := hJs.out.1; rwa [HT.out] at h1⟩⟩
end Go.Proofs.Ytdpbbcjlbnangaa.terms
