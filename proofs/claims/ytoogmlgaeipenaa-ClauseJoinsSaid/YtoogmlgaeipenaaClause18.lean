/- Clauses: goals from behind; what may not be isn't cloned. -/
import Derived.RangeFuncNested
import Derived.RangeFuncBound
import Derived.RangeFuncCalls
import Derived.RangeFuncLeaves
import Derived.Shelf.Abstract
import Derived.OwnWalkIn
import Derived.TacticsInMore
import Derived.LoopNIn
import Derived.LoopIn
import Derived.Test.YtoogmlgaeipenaaClause17
namespace Go.Proofs.Ytoogmlgaeipenaa.terms
open Go.RowKit Go.Proofs.Ytoogmlgaeipenaa.own Go.Maps Go.Shelf
attribute [local go_sem] Oper.semAt_some
/-- An item of a list that lies, with its place. -/
structure Eg (P : Nat → Prop) (w0 : World) where
  i : Nat
  k : Int
  t : T
  ao : Option Addr
  cap : Nat
  row : Row P w0 ao t.l
  sane : t.Sane
  kind : k = kindF t
abbrev Eg.enc {P : Nat → Prop} {w0 : World} (x : Eg P w0) : Array Value := #[.int .i64 (x.i : Int), .agg #[.int .i64 x.k, .int .i64 x.t.k, .int .i64 x.t.n, .string x.t.s, .slice x.ao x.t.l.length x.cap]]
/-- The items of a list, the last one first, lie in W, where nothing of S is. -/
structure Egs {P : Nat → Prop} {w0 : World} (S : Nat → Prop) (b off len : Nat) (zs : List (Eg P w0)) (W : World) : Prop where
  lt : b < W.heap.size
  out : ¬ S b
  many : zs.length = len
  at_ : ∀ (k : Nat) (x : Eg P w0), zs[k]? = some x → x.i = len - 1 - k ∧ W.cell? ⟨b, off + (len - 1 - k) * 5, none⟩ = some (.int .i64 x.k) ∧ W.cell? ⟨b, off + (len - 1 - k) * 5 + 1, none⟩ = some (.int .i64 x.t.k) ∧ W.cell? ⟨b, off + (len - 1 - k) * 5 + 2, none⟩ = some (.int .i64 x.t.n) ∧ W.cell? ⟨b, off + (len - 1 - k) * 5 + 3, none⟩ = some (.string x.t.s) ∧ W.cell? ⟨b, off + (len - 1 - k) * 5 + 4, none⟩ = some (.slice x.ao x.t.l.length x.cap)
theorem Egs.only {P : Nat → Prop} {w0 : World} {S : Nat → Prop} {b off len : Nat} {zs : List (Eg P w0)} {W W' : World} (h : Egs S b off len zs W) (ho : Only S W W') : Egs S b off len zs W' :=
  ⟨Nat.lt_of_lt_of_le h.lt ho.size, h.out, h.many, fun k x hx => by
    obtain ⟨h1, h2, h3, h4, h5, h6⟩ := h.at_ k x hx
    exact ⟨h1, (ho.cell (p := ⟨b, _, none⟩) h.lt h.out).trans h2, (ho.cell (p := ⟨b, _, none⟩) h.lt h.out).trans h3, (ho.cell (p := ⟨b, _, none⟩) h.lt h.out).trans h4, (ho.cell (p := ⟨b, _, none⟩) h.lt h.out).trans h5, (ho.cell (p := ⟨b, _, none⟩) h.lt h.out).trans h6⟩⟩
set_option maxRecDepth 100000 in
set_option maxHeartbeats 2000000 in
theorem bwd_any (a : Option Addr) (len cap : Nat) (w : World) :
    Calls Try.prog 57 #[.slice a len cap] w fun e w' => e = .returned (.func (.func 90) #[] #[.pointer (some ⟨w.heap.size, 0, none⟩)]) ∧ w' = w.alloc (.cells #[.slice a len cap] 35) := by
  go_enter Try.func57, Try.ntmps57
  go_wp2_with fail
  go_ret
  exact ⟨rfl, rfl⟩
set_option maxRecDepth 100000 in
set_option maxHeartbeats 2000000 in
theorem bwd1_in {P : Nat → Prop} {w0 : World} (n : Nat) (hn : 1 ≤ n) (l Bs b off len cap : Nat) (S : Nat → Prop) (zs : List (Eg P w0)) (hlen : len ≤ 1000000) (J Jx : List (Eg P w0) → World → Prop)
    (hY : ∀ pre x W, J pre W → pre.length < len → YieldAt Fence.wide (n - 1) Try.prog l x.enc W fun e W' =>
      (e = .returned (.bool true) ∧ J (pre ++ [x]) W' ∧ Only S W W') ∨ (e = .returned (.bool false) ∧ Jx (pre ++ [x]) W'))
    (W : World) (hBs : W.cell? ⟨Bs, 0, none⟩ = some (.slice (some ⟨b, off, none⟩) len cap)) (hbs : Bs < W.heap.size ∧ ¬ S Bs) (hc : Egs S b off len zs W) (h0 : J [] W) :
    CallsIn Fence.wide n Try.prog 90 #[.func (.yield l) #[] #[], .pointer (some ⟨Bs, 0, none⟩)] W fun e W' => (∃ v, e = .returned v) ∧
      ((∃ ys, ys = zs ∧ J ys W') ∨ (∃ pre, pre <+: zs ∧ Jx pre W')) := by
  have HC := Lib.hid hc
  have HB := Lib.hid hBs
  have hw0 : IntKind.i64.wrap ((len : Int) - 1) = (len : Int) - 1 := IntWalk.i64_in _ (by omega)
  refine callsIn_of_wp Try.func90 rfl trivial ?_ rfl
  simp only [Try.ntmps90, List.size_toArray, List.length_cons, List.length_nil, Nat.reduceAdd, Nat.reduceSub, Array.replicate_succ, Array.replicate_zero, List.push_toArray, List.append_toArray, List.nil_append, List.cons_append]
  clear hc
  gi_wp2
  have HST : Hid (J (zs.take 0) W) := Lib.hid (by simpa using h0)
  clear h0 hBs
  gi_loopw [3] (fun i wr => ∃ k : Nat, k ≤ len ∧ i = .int .i64 ((len : Int) - 1 - (k : Int)) ∧ Hid (J (zs.take k) wr ∧ Only S W wr))
    (fun i _ => ((intOf i) + 1).toNat)
  case atStart => exact ⟨0, Nat.zero_le _, by simp, Lib.hid ⟨HST.out, Only.refl _ _⟩⟩
  case round =>
    obtain ⟨k, hk, rfl, hJs⟩ := hrel
    clear HST hw0
    have hbx : wr.cell? ⟨Bs, 0, none⟩ = some (.slice (some ⟨b, off, none⟩) len cap) := (hJs.out.2.cell (p := ⟨Bs, 0, none⟩) hbs.1 hbs.2).trans HB.out
    by_cases hlt : k < len
    · obtain ⟨x, hx⟩ : ∃ x, zs[k]? = some x := ⟨_, List.getElem?_eq_getElem (by rw [HC.out.many]; exact hlt)⟩
      obtain ⟨hxi, c0, c1, c2, c3, c4⟩ := (HC.out.only hJs.out.2).at_ k x hx
      obtain ⟨j, hj⟩ : ∃ j, len = j + 1 + k := ⟨len - 1 - k, by omega⟩
      have hij : (len : Int) - 1 - (k : Int) = (j : Int) := by omega
      have hjn : len - 1 - k = j := by omega
      rw [hjn] at hxi c0 c1 c2 c3 c4
      have HTK : Hid (zs.take (k + 1) = zs.take k ++ [x]) := Lib.hid (take_snoc hx)
      obtain ⟨fn, tmps, assign, body, hy, hR⟩ := hY _ x wr hJs.out.1 (by rw [List.length_take, HC.out.many]; omega)
      rw [← HTK.out] at hR
      simp only [Eg.enc, hxi] at hy
      have hjl : (j : Int) < (len : Int) := by omega
      have hj0 : (0 : Int) ≤ (j : Int) := by omega
      have hw1 : IntKind.i64.wrap ((j : Int) - 1) = (j : Int) - 1 := IntWalk.i64_in _ (by omega)
      have HN : Hid (len = j + 1 + k) := Lib.hid hj
      rw [hij]
      clear hx hj hij hjn hk hlt HTK
      gi_wp2
      refine hR.mono ?_
      rintro e W3 (⟨rfl, hJ3, hk3⟩ | ⟨rfl, hJx3⟩)
      · have HJ3 := Lib.hid hJ3
        have HK3 := Lib.hid hk3
        clear hJ3 hk3
        gi_wp2
        go_roundw
        case rel => exact ⟨k + 1, by have := HN.out; omega, by have := HN.out; congr 1; omega, Lib.hid ⟨HJ3.out, hJs.out.2.same HK3.out⟩⟩
        case measure => first | (simp [intOf]; done) | (simp [intOf]; omega)
      · gi_wp2
        refine bodyPost_ret (results_none rfl _ _ _) rfl ?_
        exact ⟨⟨_, rfl⟩, .inr ⟨_, List.take_prefix _ _, hJx3⟩⟩
    · obtain rfl : k = len := by omega
      have HT : Hid (zs.take k = zs) := Lib.hid (by rw [← HC.out.many, List.take_length])
      have hij : (k : Int) - 1 - (k : Int) = -1 := by omega
      rw [hij]
      gi_wp2
      go_end0
      exact ⟨⟨_, rfl⟩, .inl ⟨zs, rfl, by have h1 := hJs.out.1; rwa [HT.out] at h1⟩⟩

set_option maxRecDepth 100000 in
set_option maxHeartbeats 4000000 in
theorem Clone_no (t : T) (w : World) (ao : Option Addr) (cap : Nat) (hl : Lies w ao t.l) (hs : t.Sane) (hno : ¬ t.Ok) (hz : t.size ≤ 900000) : Calls Try.prog 55 #[tv t ao cap] w fun e w' => e = .returned (.agg #[.int .i64 0, .int .i64 0, .string ⟨#[]⟩, .slice none 0 0]) ∧ Only (fun _ => False) w w' := by
  have HZ0 := Lib.hid (twoW_zero w t ao cap)
  have HB0 := Lib.hid (twoW_box w t ao cap)
  have HO0 := Lib.hid (twoW_only w t ao cap)
  have HS0 := Lib.hid (twoW_size w t ao cap)
  have hb := heap_alloc_new (twoW w t ao cap) (.cells #[.int .i64 t.k, .int .i64 t.n, .string t.s, .slice ao t.l.length cap] 24)
  rw [HS0.out] at hb
  have hb' : ((twoW w t ao cap).alloc (.cells #[.int .i64 t.k, .int .i64 t.n, .string t.s, .slice ao t.l.length cap] 24)).heap[w.heap.size + 1 + 1]? = some (.cells #[.int .i64 t.k, .int .i64 t.n, .string t.s, .slice ao t.l.length cap] 24 (0, 0)) := hb
  have HM : Hid (Calls Try.prog 86 #[.slice (some ⟨w.heap.size + 1 + 1, 0, none⟩) 1 1] ((twoW w t ao cap).alloc (.cells #[.int .i64 t.k, .int .i64 t.n, .string t.s, .slice ao t.l.length cap] 24)) fun e w' => e = .returned (.bool false) ∧ Only (fun _ => False) ((twoW w t ao cap).alloc (.cells #[.int .i64 t.k, .int .i64 t.n, .string t.s, .slice ao t.l.length cap] 24)) w') := Lib.hid (by
    refine (may_any [t] _ (some ⟨w.heap.size + 1 + 1, 0, none⟩) 1 (Row.one hl hs _ (HO0.out.same (Only.alloc _ _ _)) _ hb') (by simp) (fun x hx => by rw [List.mem_singleton.1 hx]; exact hz)).mono ?_
    rintro e w' ⟨⟨b, rfl, h⟩, ho⟩
    have hf : b = false := by
      cases b with
      | false => rfl
      | true => exact absurd (h.1 rfl t (by simp)) hno
    rw [hf]
    exact ⟨rfl, ho⟩)
  obtain ⟨c0, c1, c2, c3⟩ := HB0.out.cells
  show Calls Try.prog 55 #[.agg #[.int .i64 t.k, .int .i64 t.n, .string t.s, .slice ao t.l.length cap]] w _
  clear hl hs hno hz hb hb'
  go_enter Try.func55, Try.ntmps55
  go_wp2_with fail
  refine HM.out.mono ?_
  rintro e w1 ⟨rfl, ho1⟩
  have ho := (Only.alloc (fun _ => False) (twoW w t ao cap) (.cells #[.int .i64 t.k, .int .i64 t.n, .string t.s, .slice ao t.l.length cap] 24)).same ho1
  have HQ1 := Lib.hid (HZ0.out.only ho (fun e => e))
  have HO1 := Lib.hid (HO0.out.same ho)
  clear c0 c1 c2 c3 ho ho1
  obtain ⟨c0, c1, c2, c3⟩ := HQ1.out.cells
  obtain ⟨f0, f1, f2, f3⟩ := HQ1.out.free
  have HS := Lib.hid (HQ1.out.set (.int .i64 0) (.int .i64 0) (.string ⟨#[]⟩) (.slice none 0 0))
  go_wp2_with fail
  have hc := HS.out.1.cells
  refine bodyPost_ret (v := .agg #[.int .i64 0, .int .i64 0, .string ⟨#[]⟩, .slice none 0 0]) (results_term rfl _ _ (w.heap.size + 1) _ _ _ _ rfl hc.1 hc.2.1 hc.2.2.1 hc.2.2.2) rfl ?_
  exact ⟨rfl, Only.cut HO1.out HS.out.2 (fun k e => by omega)⟩
/-- What a term is cloned as. -/
def clF (t : T) : T := if rcheckF t = 0 then t else zeroT
theorem Clone_any (t : T) (w : World) (ao : Option Addr) (cap : Nat) (hl : Lies w ao t.l) (hs : t.Sane) (hz : t.size ≤ 900000) : Calls Try.prog 55 #[tv t ao cap] w fun e w' => ∃ a c, e = .returned (tv (clF t) a c) ∧ Row (fun k => w.heap.size ≤ k ∧ k < w'.heap.size) w' a (clF t).l ∧ Only (fun _ => False) w w' := by
  by_cases h : rcheckF t = 0
  · have : clF t = t := if_pos h
    rw [this]
    exact Clone_ok t w ao cap hl hs (rcheck_iff.1 h)
  · have : clF t = zeroT := if_neg h
    rw [this]
    refine (Clone_no t w ao cap hl hs (fun e => h (rcheck_iff.2 e)) hz).mono ?_
    rintro e w' ⟨rfl, ho⟩
    exact ⟨none, 0, rfl, Row.nil _ _ _, ho⟩
theorem called_any {P : Nat → Prop} (x : T) (ao : Option Addr) (cap : Nat) (w : World) (hl : Row P w ao x.l) (hs : x.Sane) (hP : ∀ k, P k → k < w.heap.size) : Calls Try.prog 56 #[.agg #[.int .i64 (kindF x), .int .i64 x.k, .int .i64 x.n, .string x.s, .slice ao x.l.length cap]] w fun e w' => ∃ a c, e = .returned (tv (calF x) a c) ∧ Row P w' a (calF x).l ∧ (calF x).Sane ∧ Only (fun _ => False) w w' := by
  by_cases hk : kindF x = 2
  · have e : calF x = sAtom nCut := by unfold calF calledF; rw [if_pos hk]
    rw [hk, e]
    refine (called_cut x ao cap w).mono ?_
    rintro e w' ⟨rfl, ho⟩
    exact ⟨none, 0, rfl, Row.nil _ _ _, sane_atom (by decide +kernel), ho⟩
  · have e : calF x = x := by unfold calF calledF; rw [if_neg hk]
    rw [e]
    refine (called_term (kindF x) hk x ao cap w).mono ?_
    rintro e w' ⟨rfl, ho⟩
    exact ⟨ao, cap, rfl, hl.only ho hP (fun _ _ e => e), hs, ho⟩
end Go.Proofs.Ytoogmlgaeipenaa.terms
