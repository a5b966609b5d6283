/- Clauses by generations: the calls that came in. -/
import Derived.Test.YthfilpacmllhpabBas31
namespace Go.Proofs.Ythfilpacmllhpab.bases
set_option maxRecDepth 100000
open Go.RowKit Go.Proofs.Ythfilpacmllhpab.own Go.Lib Go.Maps Go.WideMaps Go.Proofs.Ythfilpacmllhpab.idx Go.Proofs.Ythfilpacmllhpab.terms
/-- A call that came in. -/
structure BO where
  k : Int
  t : T
  ao : Option Addr
  cap : Nat
  go : Option Addr
  gs : List GI
  gc : Nat
  v : Int
  co : Option Addr
  is : List In
  cc : Nat
  f : Bool
  n : Int
structure BO.Ok (x : BO) (w : World) : Prop where
  t : x.t.Sane
  r : Row (fun k => k < w.heap.size) w x.ao x.t.l
  g : ArgG0 x.go x.gs w
  c0 : x.co = none → x.cc = 0
  c : SrcOf encI w x.co x.is
  cb : ∀ ad, x.co = some ad → x.is ≠ [] → ad.block < w.heap.size
structure BO.Fine (x : BO) : Prop where
  t : x.t.size ≤ 6000
  g : x.gs.length ≤ 80
  gs : ∀ y ∈ x.gs, y.t.size ≤ 6000
  c : x.is.length ≤ 100
/-- A row of calls that came in. -/
def ArgBO (ao : Option Addr) (l : List BO) (w : World) : Prop := ∀ i x, l[i]? = some x → ∃ b off, ao = some ⟨b, off, none⟩ ∧ b < w.heap.size ∧ x.Ok w ∧
  (w.cell? ⟨b, off + i * 14, none⟩ = some (.int .i64 x.k) ∧ w.cell? ⟨b, off + i * 14 + 1, none⟩ = some (.int .i64 x.t.k) ∧ w.cell? ⟨b, off + i * 14 + 2, none⟩ = some (.int .i64 x.t.n) ∧ w.cell? ⟨b, off + i * 14 + 3, none⟩ = some (.string x.t.s) ∧ w.cell? ⟨b, off + i * 14 + 4, none⟩ = some (.slice x.ao x.t.l.length x.cap)) ∧
  (w.cell? ⟨b, off + i * 14 + 5, none⟩ = some (.slice x.go x.gs.length x.gc) ∧ w.cell? ⟨b, off + i * 14 + 6, none⟩ = some (.int .i64 x.v) ∧ w.cell? ⟨b, off + i * 14 + 7, none⟩ = some (.slice x.co x.is.length x.cc) ∧ w.cell? ⟨b, off + i * 14 + 8, none⟩ = some (.bool x.f) ∧ w.cell? ⟨b, off + i * 14 + 9, none⟩ = some (.int .i64 x.n))
theorem arg_bo {ao : Option Addr} {l : List BO} {w W : World} (h : ArgBO ao l w) (o : Only (fun _ => False) w W) {i : Nat} {x : BO} (hi : l[i]? = some x) : ∃ b off, ao = some ⟨b, off, none⟩ ∧ x.Ok w ∧
  (W.cell? ⟨b, off + i * 14, none⟩ = some (.int .i64 x.k) ∧ W.cell? ⟨b, off + i * 14 + 1, none⟩ = some (.int .i64 x.t.k) ∧ W.cell? ⟨b, off + i * 14 + 2, none⟩ = some (.int .i64 x.t.n) ∧ W.cell? ⟨b, off + i * 14 + 3, none⟩ = some (.string x.t.s) ∧ W.cell? ⟨b, off + i * 14 + 4, none⟩ = some (.slice x.ao x.t.l.length x.cap)) ∧
  (W.cell? ⟨b, off + i * 14 + 5, none⟩ = some (.slice x.go x.gs.length x.gc) ∧ W.cell? ⟨b, off + i * 14 + 6, none⟩ = some (.int .i64 x.v) ∧ W.cell? ⟨b, off + i * 14 + 7, none⟩ = some (.slice x.co x.is.length x.cc) ∧ W.cell? ⟨b, off + i * 14 + 8, none⟩ = some (.bool x.f) ∧ W.cell? ⟨b, off + i * 14 + 9, none⟩ = some (.int .i64 x.n)) := by
  obtain ⟨b, off, h1, h2, h3, ⟨c0, c1, c2, c3, c4⟩, c5, c6, c7, c8, c9⟩ := h i x hi
  have key : ∀ j u, w.cell? ⟨b, off + i * 14 + j, none⟩ = some u → W.cell? ⟨b, off + i * 14 + j, none⟩ = some u := fun j u hu => (o.cell (p := ⟨b, off + i * 14 + j, none⟩) h2 (fun e => e)).trans hu
  exact ⟨b, off, h1, h3, ⟨key 0 _ c0, key 1 _ c1, key 2 _ c2, key 3 _ c3, key 4 _ c4⟩, key 5 _ c5, key 6 _ c6, key 7 _ c7, key 8 _ c8, key 9 _ c9⟩
set_option maxHeartbeats 8000000 in
theorem larges_any (ao : Option Addr) (cap : Nat) (l : List BO) (w0 w : World) (ha : ArgBO ao l w0) (o0 : Only (fun _ => False) w0 w) (hm : l.length ≤ maxLen) :
    Calls Try.prog 6 #[.slice ao l.length cap] w fun e w' => ∃ r, e = .returned (.bool r) ∧ Only (fun _ => False) w w' ∧ (r = false → ∀ i x, i < 60 → l[i]? = some x → x.Fine) := by
  unfold maxLen at hm
  have HA := Lib.hid ha
  have HO := Lib.hid o0
  clear ha o0
  go_enter Try.func6, Try.ntmps6
  go_wp2_with fail
  go_loopw [3] (fun s3 wr => ∃ j : Nat, s3 = .int .i64 j ∧ j ≤ l.length ∧ j ≤ 60 ∧ Hid (Only (fun _ => False) w wr ∧ ∀ i x, i < j → l[i]? = some x → x.Fine)) (fun s3 _ => l.length - (RowKit.intOf s3).toNat)
  case atStart => exact ⟨0, rfl, Nat.zero_le _, Nat.zero_le _, Lib.hid ⟨Only.refl _ _, fun i x h => by omega⟩⟩
  case round =>
    obtain ⟨j, rfl, hj, hj6, hI⟩ := hrel
    by_cases hlt : j < l.length ∧ j < 60
    · obtain ⟨hk1, hk2⟩ := hlt
      obtain ⟨x, hx⟩ : ∃ x, l[j]? = some x := ⟨l[j], List.getElem?_eq_getElem hk1⟩
      obtain ⟨b, off, rfl, hok, ⟨c0, c1, c2, c3, c4⟩, c5, c6, c7, c8, c9⟩ := arg_bo HA.out (HO.out.same hI.out.1) hx
      have hoo := HO.out.same hI.out.1
      have HLX := Lib.hid (large_any x.t x.ao x.cap x.v x.go x.gs x.gc wr hok.t (hok.r.later hoo) (hok.g.later hoo))
      have HXX := Lib.hid hx
      have HJL := Lib.hid (And.intro hk1 hk2)
      clear hok hoo hx
      go_wp2_with fail
      refine HLX.out.mono ?_
      rintro e w3 ⟨r, rfl, ho3, hr⟩
      have HO3 := Lib.hid (hI.out.1.same ho3)
      have HR := Lib.hid hr
      clear ho3 hr HLX c0 c1 c2 c3 c4 c5 c6 c7 c8 c9
      cases r with
      | true =>
        go_wp2_with fail
        go_ret
        exact ⟨true, rfl, HO3.out, fun e => by cases e⟩
      | false =>
        obtain ⟨b', off', hgo, _, ⟨c0, c1, c2, c3, c4⟩, c5, c6, c7, c8, c9⟩ := arg_bo HA.out (HO.out.same HO3.out) HXX.out
        cases hgo
        by_cases hil : x.is.length ≤ 100
        · have h1 : ¬ (100 < x.is.length) := by omega
          have h2 : decide ((x.is.length : Int) > 100) = false := decide_eq_false (by omega)
          have HFI : Hid x.Fine := Lib.hid ⟨(HR.out rfl).1, (HR.out rfl).2.1, (HR.out rfl).2.2, hil⟩
          have hwj : IntKind.i64.wrap ((j : Int) + 1) = ((j + 1 : Nat) : Int) := by rw [IntWalk.i64_in _ (by omega)]; omega
          go_wp2_with fail
          go_roundw
          case rel => exact ⟨j + 1, by go_num, by omega, by omega, Lib.hid ⟨HO3.out, fun i y hi hy => by
            by_cases e : i < j
            · exact hI.out.2 i y e hy
            · obtain rfl : i = j := by omega
              rw [HXX.out] at hy
              cases hy
              exact HFI.out⟩⟩
          case measure => simp [RowKit.intOf]; omega
        · have h1 : 100 < x.is.length := by omega
          have h2 : decide ((x.is.length : Int) > 100) = true := decide_eq_true (by omega)
          go_wp2_with fail
          go_ret
          exact ⟨true, rfl, HO3.out, fun e => by cases e⟩
    · have HALL : Hid (∀ i x, i < 60 → l[i]? = some x → x.Fine) := Lib.hid (fun i x hi hx => hI.out.2 i x (by have := (List.getElem?_eq_some_iff.1 hx).1; omega) hx)
      have hx : ¬ j < l.length ∨ (j < l.length ∧ ¬ j < 60) := by omega
      clear hlt hj hj6
      rcases hx with hx | ⟨hx, hx2⟩
      all_goals
        go_wp2_with fail
        go_ret
        exact ⟨false, rfl, hI.out.1, fun _ => HALL.out⟩
end Go.Proofs.Ythfilpacmllhpab.bases
