

/- Terms: the reference's place of a number, and what follows: 9 texts in one. -/
import Derived.Test.YthfilpacmllhpabTermB
import Derived.Test.YthfilpacmllhpabTermC
import Derived.BigQuiet
import Derived.Test.YthfilpacmllhpabTermD
import Derived.Deep.RegionWith
import Derived.RegionTactic
import Derived.Test.YthfilpacmllhpabTermA
import Derived.StillTailTactics
/- Terms: the reference's place of a number. -/
namespace Go.Proofs.Ythfilpacmllhpab.terms
set_option maxRecDepth 100000
section
open Go.RowKit Go.Proofs.Ythfilpacmllhpab.own Go.Maps
def placeF (l : List Int) (n : Int) : Int := match pos l n with | some i => (i : Int) | none => -1
theorem pos_at {l : List Int} {n : Int} {j : Nat} (h : l[j]? = some n) (hp : n ∉ l.take j) : pos l n = some j := by
  have hj := (List.getElem?_eq_some_iff.1 h)
  obtain ⟨hlt, he⟩ := hj
  unfold pos
  rw [List.findIdx?_eq_some_iff_getElem]
  refine ⟨hlt, by simp [he], fun i hi => ?_⟩
  simp only [beq_iff_eq]
  intro e
  apply hp
  rw [List.mem_iff_getElem?]
  exact ⟨i, by rw [List.getElem?_take, if_pos hi, List.getElem?_eq_getElem (by omega), e]⟩
theorem pos_nil {l : List Int} {n : Int} (h : n ∉ l) : pos l n = none := by
  cases hp : pos l n with
  | none => rfl
  | some i => exact absurd (List.mem_of_getElem? (pos_some hp)) h
end
end Go.Proofs.Ythfilpacmllhpab.terms
/- Terms: the reference's variables. -/
namespace Go.Proofs.Ythfilpacmllhpab.terms
set_option maxRecDepth 100000
section
open Go.RowKit Go.Proofs.Ythfilpacmllhpab.own Go.Maps
theorem numF_in {l : List Int} {n : Int} {j : Nat} (h : l[j]? = some n) (hp : n ∉ l.take j) : renNxt l n = l := by unfold renNxt numF; rw [pos_at h hp]
theorem numF_out {l : List Int} {n : Int} (h : n ∉ l) : renNxt l n = l ++ [n] := by unfold renNxt numF; rw [pos_nil h]
theorem renNxt_le (l : List Int) (n : Int) : (renNxt l n).length ≤ l.length + 1 := by
  unfold renNxt numF
  cases pos l n with
  | some i => exact Nat.le_succ _
  | none => simp
theorem eachL_len (t : T) : ∀ st : List Int, (eachF renNxt t st).length ≤ st.length + t.size := by
  induction t using T.ind with
  | h k n s l ih =>
    intro st
    have hl : ∀ st : List Int, (eachL renNxt l st).length ≤ st.length + sizes l := by
      clear k n s
      induction l with
      | nil => intro st; simp [eachL]
      | cons x r ihr =>
        intro st
        have h1 := ih x (by simp) st
        have h2 := ihr (fun y hy => ih y (by simp [hy])) (eachF renNxt x st)
        simp only [eachL, sizes]
        omega
    have h1 := hl (if k = 1 then renNxt st n else st)
    have h2 := renNxt_le st n
    show (eachL renNxt l (if k = 1 then renNxt st n else st)).length ≤ st.length + (1 + sizes l)
    split at h1 <;> rename_i hk <;> simp only [hk, ↓reduceIte] <;> omega
abbrev OrdB (B : Nat) (ao : Option Addr) (cap : Nat) (l : List Int) (w : World) : Prop := RowOf encI 1 3 B ao cap l w
def VarsP (B : Nat) (w : World) (so : Option Addr) (r : List Int) (e : Ending) (w' : World) : Prop := ∃ so' sc', e = .returned (.slice so' r.length sc') ∧ OrdB B so' sc' r w' ∧ Only (RowAt so) w w' ∧ NewRow w.heap.size so so'
theorem ord_box {B cap bx len c2 : Nat} {so ao : Option Addr} {k n : Int} {s : ByteArray} {xs : List Int} {w : World} (h : OrdB B so cap xs w) (hb : BoxAt bx k n s ao len c2 w) : ¬ RowAt so bx := by
  rintro ⟨a, rfl, rfl⟩
  rcases h.2 with ⟨h1, _⟩ | ⟨g', cap', cur, hv, _, hg, _⟩
  · simp at h1
  · simp only [Value.slice.injEq, Option.some.injEq] at hv
    obtain ⟨rfl, _⟩ := hv
    unfold BoxAt at hb
    simp only at hb
    rw [hg] at hb
    simp only [Option.some.injEq, Obj.cells.injEq] at hb
    exact absurd hb.2.1 (by decide)
end
end Go.Proofs.Ythfilpacmllhpab.terms
/- Terms: the reference's Check. -/
namespace Go.Proofs.Ythfilpacmllhpab.terms
set_option maxRecDepth 100000
section
open Go.RowKit Go.Proofs.Ythfilpacmllhpab.own Go.Maps
def rcheckF (t : T) : Int := if t.right = false then 60 else if 200 < t.depth then 61 else if 4096 < t.size then 62 else 0
theorem rcheck_iff {t : T} : rcheckF t = 0 ↔ t.Ok := by
  unfold rcheckF
  constructor
  · intro h
    split at h
    · cases h
    · rename_i h1
      split at h
      · cases h
      · rename_i h2
        split at h
        · cases h
        · rename_i h3
          exact ⟨by cases hr : t.right <;> simp_all, by omega, by omega⟩
  · intro h
    rw [if_neg (by rw [h.right]; decide), if_neg (by have := h.depth; omega), if_neg (by have := h.size; omega)]
end
end Go.Proofs.Ythfilpacmllhpab.terms
/- Terms: the reference's Comp. -/
namespace Go.Proofs.Ythfilpacmllhpab.terms
set_option maxRecDepth 100000
section
open Go.RowKit Go.Proofs.Ythfilpacmllhpab.own Go.Maps
theorem ratom_plain (s : ByteArray) (w : World) : Calls Try.prog 52 #[.string s] w fun e w' => e = .returned (.agg #[.int .i64 3, .int .i64 0, .string s, .slice none 0 0]) ∧ Only (fun _ => False) w w' := ratom_any s w
theorem Row.tail {P : Nat → Prop} {w : World} {B cap : Nat} {oo : Option Addr} {xs : List It} (h : ItsP B oo cap xs w) (hP : ∀ q, B ≤ q → q < w.heap.size → P q) (hs : ∀ (i : Nat) (x : It), xs[i]? = some x → x.t.Sane ∧ Row P w x.ao x.t.l) : Row P w oo (xs.map (·.t)) := by
  cases xs with
  | nil => exact Row.nil _ _ _
  | cons x r =>
    obtain ⟨g, hg, hB, _⟩ := h.at liesIt 0 x rfl
    have := (h.head _ hg).2
    subst hg
    exact ItsP.row h (hP g this.1 this.2) hs
set_option maxRecDepth 100000 in
set_option maxHeartbeats 2000000 in
theorem rComp_row {P : Nat → Prop} (s : ByteArray) (l : List T) (w : World) (ao : Option Addr) (cap : Nat) (hs : s.size ≤ maxLen) (hl : Row P w ao l) (hP : ∀ k, P k → k < w.heap.size) (hz : l.length ≤ 1000000) :
    Calls Try.prog 26 #[.string s, .slice ao l.length cap] w fun e w' => ∃ ao' cap', e = .returned (tv (compF s l) ao' cap') ∧ Row (fun k => P k ∨ (w.heap.size ≤ k ∧ k < w'.heap.size)) w' ao' (compF s l).l ∧ (compF s l).Sane ∧ Only (fun _ => False) w w' := by
  obtain ⟨i0, hi, hz0, hz1, hz2⟩ := info_parts infoT
  have HS := Lib.hid hs
  have hq1 : Quad w.heap.size (.int .i64 0) (.int .i64 0) (.string ⟨#[]⟩) (.slice none 0 0) (w.alloc (.cells #[.int .i64 0, .int .i64 0, .string ⟨#[]⟩, .slice none 0 0] 31)) := heap_alloc_new _ _
  have ho1 : Only (fun _ => False) w (w.alloc (.cells #[.int .i64 0, .int .i64 0, .string ⟨#[]⟩, .slice none 0 0] 31)) := Only.alloc _ _ _
  have HQ1 := Lib.hid hq1
  have HO1 := Lib.hid ho1
  clear hq1 ho1 hs
  by_cases h0 : l.length = 0
  · have HE : Hid (compF s l = .mk 3 0 s []) := Lib.hid (by unfold compF; rw [if_pos h0])
    have hl0 : ((l.length : Int) == 0) = true := by simp [h0]
    clear hl hz h0
    go_enter Try.func26, Try.ntmps26
    go_wp2_with fail
    refine (ratom_plain s _).mono ?_
    rintro e w2 ⟨rfl, ho2⟩
    have HO2 := Lib.hid (HO1.out.same ho2)
    have hq2 := HQ1.out.only ho2 (fun e => e)
    have HS2 := Lib.hid (hq2.set (.int .i64 3) (.int .i64 0) (.string s) (.slice none 0 0))
    obtain ⟨c0, c1, c2, c3⟩ := hq2.cells
    obtain ⟨f0, f1, f2, f3⟩ := hq2.free
    clear hq2 ho2
    go_wp2_with fail
    have hc := HS2.out.1.cells
    rw [HE.out]
    refine bodyPost_ret (v := tv (T.mk 3 0 s []) none 0) (results_term rfl _ _ w.heap.size _ _ _ _ rfl hc.1 hc.2.1 hc.2.2.1 hc.2.2.2) rfl ?_
    refine ⟨none, 0, rfl, Row.nil _ _ _, ⟨⟨by show (-9223372036854775808 : Int) ≤ 3; omega, by show (3 : Int) ≤ 9223372036854775807; omega⟩, ⟨by show (-9223372036854775808 : Int) ≤ 0; omega, by show (0 : Int) ≤ 9223372036854775807; omega⟩, HS.out, Nat.zero_le _⟩, Only.cut HO2.out HS2.out.2 (fun k e => by omega)⟩
  · have HE : Hid (compF s l = .mk 4 0 s l) := Lib.hid (by unfold compF; rw [if_neg h0])
    have hl0 : ((l.length : Int) == 0) = false := by simp; intro e; rw [e] at h0; exact h0 rfl
    obtain ⟨its, hm, hsrc, hsub⟩ := Row.src hl hP
    have hlen : its.length = l.length := by rw [← hm, List.length_map]
    obtain ⟨x, hx⟩ : ∃ x, its[0]? = some x := ⟨_, List.getElem?_eq_getElem (by omega)⟩
    obtain ⟨b, off, rfl, hb, _⟩ := hsrc 0 x hx
    have HLL : Hid (l.length ≤ maxLen) := Lib.hid (by unfold maxLen; omega)
    have HLEN := Lib.hid hlen
    have HM := Lib.hid hm
    have HSUB := Lib.hid hsub
    have ho2 : Only (fun _ => False) (w.alloc (.cells #[.int .i64 0, .int .i64 0, .string ⟨#[]⟩, .slice none 0 0] 31)) ((w.alloc (.cells #[.int .i64 0, .int .i64 0, .string ⟨#[]⟩, .slice none 0 0] 31)).alloc (.cells #[] 31)) := Only.alloc _ _ _
    have hb2 := heap_alloc_new (w.alloc (.cells #[.int .i64 0, .int .i64 0, .string ⟨#[]⟩, .slice none 0 0] 31)) (.cells #[] 31)
    rw [show (w.alloc (.cells #[.int .i64 0, .int .i64 0, .string ⟨#[]⟩, .slice none 0 0] 31)).heap.size = w.heap.size + 1 by simp] at hb2
    have HO2 := Lib.hid (HO1.out.same ho2)
    have HQ2 := Lib.hid (HQ1.out.only ho2 (fun e => e))
    have HSRC := Lib.hid (hsrc.later (HO1.out.same ho2))
    have HOWN : Hid (((w.alloc (.cells #[.int .i64 0, .int .i64 0, .string ⟨#[]⟩, .slice none 0 0] 31)).alloc (.cells #[] 31)).ownsRow (w.heap.size + 1) 31 4 (.slice (some ⟨w.heap.size + 1, 0, none⟩) 0 0) 0 []) := Lib.hid ⟨rfl, .inr ⟨_, 0, _, rfl, Nat.le_refl _, hb2, Nat.le_refl _, Nat.zero_le _, rfl, rfl⟩⟩
    have HSZ : Hid (w.heap.size + 1 ≤ ((w.alloc (.cells #[.int .i64 0, .int .i64 0, .string ⟨#[]⟩, .slice none 0 0] 31)).alloc (.cells #[] 31)).heap.size) := Lib.hid (by simp)
    clear hl h0 hm hsrc hsub hx ho2 hb2 hlen
    go_enter Try.func26, Try.ntmps26
    go_wp2_with (first
      | (at_builtin; refine wpList_append_own_at _ rfl (.tmp 11) (.tmp 12) 29 rfl (w.heap.size + 1) 31 i0 _ 4 56 Try.underlying29 hi hz0 hz1 hz2 rfl (by omega) _ 0 [] rfl HOWN.out ⟨b, off, none⟩ l.length cap (its.flatMap encIt) rfl (by rw [← HLEN.out]; exact flat_len liesIt its) HSRC.out.cells (fun u hu => by obtain ⟨x, _, hx⟩ := List.mem_flatMap.1 hu; exact liesIt.one x u hx) (by unfold maxLen; omega) (by omega) HSZ.out ?_; intro v' w2 hown2 hg2 hnil2 hat2
         obtain ⟨fo, fc, rfl⟩ := owned_shape hown2
         have HOWN2 := Lib.hid hown2
         have ho2 : Only (fun q => q = w.heap.size + 1) _ w2 := (Only.grown hg2).mono (fun q _ e => Option.some.inj (show some q = some (w.heap.size + 1) from e))
         have HO3 : Hid (Only (fun _ => False) w w2) := Lib.hid (Only.cut HO2.out ho2 (fun k e => by omega))
         have hq3 := HQ2.out.only ho2 (by omega)
         have HS3 := Lib.hid (hq3.set (.int .i64 4) (.int .i64 0) (.string s) (.slice fo l.length fc))
         obtain ⟨c0, c1, c2, c3⟩ := hq3.cells
         obtain ⟨f0, f1, f2, f3⟩ := hq3.free
         clear hown2 hg2 hnil2 hat2 ho2 hq3)
      | fail)
    have hc := HS3.out.1.cells
    rw [HE.out]
    refine bodyPost_ret (v := tv (T.mk 4 0 s l) fo fc) (results_term rfl _ _ w.heap.size _ _ _ _ rfl hc.1 hc.2.1 hc.2.2.1 hc.2.2.2) rfl ?_
    refine ⟨fo, fc, rfl, ?_, ⟨⟨by show (-9223372036854775808 : Int) ≤ 4; omega, by show (4 : Int) ≤ 9223372036854775807; omega⟩, ⟨by show (-9223372036854775808 : Int) ≤ 0; omega, by show (0 : Int) ≤ 9223372036854775807; omega⟩, HS.out, HLL.out⟩, Only.cut HO3.out HS3.out.2 (fun k e => by omega)⟩
    have hrow : ItsP (w.heap.size + 1) fo fc its w2 := by
      have := HOWN2.out
      unfold ItsP RowOf
      rw [HLEN.out]
      simpa using this
    have o4 := HS3.out.2
    have hrow4 := hrow.only o4 (fun g hg e => by have := (hrow.head g hg).2.1; omega)
    have how := Only.cut HO3.out o4 (fun k e => by omega)
    have := Row.tail (P := fun k => P k ∨ (w.heap.size ≤ k ∧ k < (quadW w2 w.heap.size (.int .i64 4) (.int .i64 0) (.string s) (.slice fo l.length fc)).heap.size)) hrow4 (fun q h1 h => .inr ⟨by omega, h⟩) (fun i x hx => ⟨(HSUB.out i x hx).1, ((HSUB.out i x hx).2.only how hP (fun _ _ e => e)).mono (fun _ h => .inl h)⟩)
    rw [HM.out] at this
    exact this
theorem rComp_any (s : ByteArray) (l : List T) (w : World) (ao : Option Addr) (cap : Nat) (hs : s.size ≤ maxLen) (hl : Lies w ao l) (hz : l.length ≤ 1000000) :
    Calls Try.prog 26 #[.string s, .slice ao l.length cap] w fun e w' => ∃ ao' cap', e = .returned (tv (compF s l) ao' cap') ∧ Lies w' ao' (compF s l).l ∧ (compF s l).Sane ∧ Only (fun _ => False) w w' := by
  refine (rComp_row s l w ao cap hs hl (fun _ e => e) hz).mono ?_
  rintro e w' ⟨ao', cap', h1, h2, h3, h4⟩
  have := h4.size
  exact ⟨ao', cap', h1, h2.mono (fun k hk => by rcases hk with hk | hk <;> omega), h3, h4⟩
end
end Go.Proofs.Ythfilpacmllhpab.terms
/- Terms: the reference's List. -/
namespace Go.Proofs.Ythfilpacmllhpab.terms
set_option maxRecDepth 100000
section
open Go.RowKit Go.Proofs.Ythfilpacmllhpab.own Go.Maps
def dot : ByteArray := ⟨#[46]⟩
def listF : List T → T → T | [], t => t | x :: r, t => .mk 4 0 dot [x, listF r t]
theorem comp_two (x y : T) : compF dot [x, y] = .mk 4 0 dot [x, y] := rfl
theorem Row.pair {P : Nat → Prop} {w : World} {t u : T} {ao bo : Option Addr} {cap bcap b : Nat} (hl : Row P w ao t.l) (hs : t.Sane) (hl' : Row P w bo u.l) (hs' : u.Sane) (hb : w.heap[b]? = some (.cells #[.int .i64 t.k, .int .i64 t.n, .string t.s, .slice ao t.l.length cap, .int .i64 u.k, .int .i64 u.n, .string u.s, .slice bo u.l.length bcap] 31 (0, 0))) : Row (fun k => P k ∨ k = b) w (some ⟨b, 0, none⟩) [t, u] := by
  refine .mk _ _ (fun i => if i = 0 then ao else bo) (fun i => if i = 0 then cap else bcap) (fun i x hx => ?_) (fun i x hx => ?_)
  · match i, hx with
    | 0, hx =>
      simp only [List.getElem?_cons_zero, Option.some.injEq] at hx
      subst hx
      refine ⟨b, 0, rfl, .inr rfl, ?_, ?_, ?_, ?_, hs, free_of_blk hb _⟩ <;> (rw [cell_of_blk hb]; rfl)
    | 1, hx =>
      simp only [List.getElem?_cons_succ, List.getElem?_cons_zero, Option.some.injEq] at hx
      subst hx
      refine ⟨b, 0, rfl, .inr rfl, ?_, ?_, ?_, ?_, hs', free_of_blk hb _⟩ <;> (rw [cell_of_blk hb]; rfl)
    | i + 2, hx => simp at hx
  · match i, hx with
    | 0, hx =>
      simp only [List.getElem?_cons_zero, Option.some.injEq] at hx
      subst hx
      exact hl.mono (fun _ h => .inl h)
    | 1, hx =>
      simp only [List.getElem?_cons_succ, List.getElem?_cons_zero, Option.some.injEq] at hx
      subst hx
      exact hl'.mono (fun _ h => .inl h)
    | i + 2, hx => simp at hx
theorem rcomp_two {P : Nat → Prop} (x y : T) (w : World) (xo yo : Option Addr) (xc yc : Nat) (hP : ∀ k, P k → k < w.heap.size) (hxl : Row P w xo x.l) (hxs : x.Sane) (hyl : Row P w yo y.l) (hys : y.Sane) :
    Calls Try.prog 26 #[.string ⟨#[46]⟩, .slice (some ⟨w.heap.size, 0, none⟩) 2 2] (w.alloc (.cells #[.int .i64 x.k, .int .i64 x.n, .string x.s, .slice xo x.l.length xc, .int .i64 y.k, .int .i64 y.n, .string y.s, .slice yo y.l.length yc] 31)) fun e w' => ∃ ao' cap', e = .returned (.agg #[.int .i64 4, .int .i64 0, .string ⟨#[46]⟩, .slice ao' 2 cap']) ∧ Row (fun k => P k ∨ (w.heap.size ≤ k ∧ k < w'.heap.size)) w' ao' [x, y] ∧ Only (fun _ => False) w w' := by
  have ho : Only (fun _ => False) w (w.alloc (.cells #[.int .i64 x.k, .int .i64 x.n, .string x.s, .slice xo x.l.length xc, .int .i64 y.k, .int .i64 y.n, .string y.s, .slice yo y.l.length yc] 31)) := Only.alloc _ _ _
  have hsz : (w.alloc (.cells #[.int .i64 x.k, .int .i64 x.n, .string x.s, .slice xo x.l.length xc, .int .i64 y.k, .int .i64 y.n, .string y.s, .slice yo y.l.length yc] 31)).heap.size = w.heap.size + 1 := by simp
  refine (rComp_row dot [x, y] _ (some ⟨w.heap.size, 0, none⟩) 2 (by show 1 ≤ maxLen; unfold maxLen; omega) (Row.pair (hxl.only ho hP (fun _ _ e => e)) hxs (hyl.only ho hP (fun _ _ e => e)) hys (heap_alloc_new _ _)) (fun k hk => by rcases hk with hk | hk; exact Nat.lt_of_lt_of_le (hP k hk) ho.size; omega) (by simp)).mono ?_
  rintro e w' ⟨ao', cap', rfl, h1, _, h3⟩
  have h4 := h3.size
  exact ⟨ao', cap', rfl, h1.mono (fun k hk => by
    rcases hk with (hk | hk) | hk
    · exact .inl hk
    · exact .inr (by omega)
    · exact .inr (by omega)), ho.same h3⟩
theorem listF_step {items : List T} {j : Nat} {x : T} (h : items[j]? = some x) (t : T) : listF (items.drop j) t = .mk 4 0 dot [x, listF (items.drop (j + 1)) t] := by
  have hlt := (List.getElem?_eq_some_iff.1 h)
  rw [List.drop_eq_getElem_cons hlt.1, hlt.2]
  rfl
theorem sane_two (x y : T) : (T.mk 4 0 dot [x, y]).Sane := ⟨⟨by show (-9223372036854775808 : Int) ≤ 4; omega, by show (4 : Int) ≤ 9223372036854775807; omega⟩, ⟨by show (-9223372036854775808 : Int) ≤ 0; omega, by show (0 : Int) ≤ 9223372036854775807; omega⟩, by show 1 ≤ maxLen; unfold maxLen; omega, by show 2 ≤ maxLen; unfold maxLen; omega⟩
/-- The list under way. -/
structure LsI (w : World) (u : T) (uo : Option Addr) (uc : Nat) (wr : World) : Prop where
  box : Quad (w.heap.size + 1 + 1) (.int .i64 u.k) (.int .i64 u.n) (.string u.s) (.slice uo u.l.length uc) wr
  res : Quad (w.heap.size + 1) (.int .i64 0) (.int .i64 0) (.string ⟨#[]⟩) (.slice none 0 0) wr
  own : Only (fun _ => False) w wr
  lies : Row (fun q => q < wr.heap.size ∧ q ≠ w.heap.size + 1 + 1 ∧ q ≠ w.heap.size + 1) wr uo u.l
  sane : u.Sane
end
end Go.Proofs.Ythfilpacmllhpab.terms
/- Terms: the reference's Items. -/
namespace Go.Proofs.Ythfilpacmllhpab.terms
set_option maxRecDepth 100000
section
open Go.RowKit Go.Proofs.Ythfilpacmllhpab.own Go.Maps
structure ItmR (w : World) (t : T) (its : List It) (oo : Option Addr) (oc : Nat) (u : T) (uo : Option Addr) (uc : Nat) (wr : World) : Prop where
  box : Quad w.heap.size (.int .i64 u.k) (.int .i64 u.n) (.string u.s) (.slice uo u.l.length uc) wr
  res : Quad (w.heap.size + 1) (.int .i64 0) (.int .i64 0) (.string ⟨#[]⟩) (.slice none 0 0) wr
  own : Only (fun _ => False) w wr
  lies : Lies w uo u.l
  sane : u.Sane
  row : ItsP (w.heap.size + 2) oo oc its wr
  subs : ∀ (i : Nat) (x : It), its[i]? = some x → x.t.Sane ∧ Lies w x.ao x.t.l
  eq : itemsF t = (its.map (·.t) ++ (itemsF u).1, (itemsF u).2)
  len : its.length + u.depth ≤ t.depth
  size : w.heap.size + 2 ≤ wr.heap.size
end
end Go.Proofs.Ythfilpacmllhpab.terms
/- Terms: renaming, by the list of the numbers. -/
namespace Go.Proofs.Ythfilpacmllhpab.terms
set_option maxRecDepth 100000
section
open Go.RowKit Go.Proofs.Ythfilpacmllhpab.own Go.Maps
mutual
def renamedF (v : List Int) : T → T | .mk k n s l => if k = 1 then .mk 1 (placeF v n) ⟨#[]⟩ [] else .mk k n s (renamedL v l)
def renamedL (v : List Int) : List T → List T | [] => [] | x :: r => renamedF v x :: renamedL v r
end
theorem place_num (st r : List Int) (n : Int) : placeF (renNxt st n ++ r) n = ((numF st n).1 : Nat) := by
  unfold placeF renNxt numF
  cases hp : pos st n with
  | some i =>
    have h1 := pos_some hp
    have hi := (List.getElem?_eq_some_iff.1 h1).1
    have h2 : pos (st ++ r) n = some i := by
      unfold pos at hp ⊢
      rw [List.findIdx?_append, hp]
      rfl
    simp only [h2]
  | none =>
    have h1 := pos_none hp
    have h2 : pos (st ++ [n] ++ r) n = some st.length := by
      refine pos_at ?_ ?_
      · rw [List.append_assoc, List.getElem?_append_right (Nat.le_refl _), Nat.sub_self]
        rfl
      · rw [List.append_assoc, List.take_left']
        · exact h1
        · rfl
    simp only [h2]
theorem renNxt_pre (st : List Int) (n : Int) : ∃ r, renNxt st n = st ++ r := by
  unfold renNxt numF
  cases pos st n with
  | some i => exact ⟨[], by simp⟩
  | none => exact ⟨[n], rfl⟩
theorem ren_is (t : T) : ∀ (st r : List Int), t.right = true → (∃ q, eachF renNxt t st = st ++ q) ∧ exF renOut renNxt t st = (renamedF (eachF renNxt t st ++ r) t, eachF renNxt t st) := by
  induction t using T.ind with
  | h k n s l ih =>
    intro st r hr
    by_cases hk : k = 1
    · subst hk
      obtain ⟨rfl, rfl, _, _⟩ := var_form hr
      have e : eachF renNxt (T.mk 1 n ⟨#[]⟩ []) st = renNxt st n := by unfold eachF; rw [if_pos rfl]; rfl
      rw [e]
      refine ⟨renNxt_pre st n, ?_⟩
      unfold exF renamedF
      rw [if_pos rfl, if_pos rfl, place_num]
      rfl
    · have hl : rights l = true := by rw [T.right_eq, Bool.and_eq_true] at hr; exact hr.2
      have h : ∀ st r : List Int, (∃ q, eachL renNxt l st = st ++ q) ∧ exL renOut renNxt l st = (renamedL (eachL renNxt l st ++ r) l, eachL renNxt l st) := by
        clear hr hk k n s st r
        induction l with
        | nil => intro st r; exact ⟨⟨[], by simp [eachL]⟩, rfl⟩
        | cons x a iha =>
          intro st r
          rw [rights_iff] at hl
          have hx := hl x (by simp)
          have h2 := iha (fun y hy => ih y (by simp [hy])) (rights_iff.2 (fun y hy => hl y (by simp [hy]))) (eachF renNxt x st) r
          obtain ⟨q2, hq2⟩ := h2.1
          have h1 := ih x (by simp) st (q2 ++ r) hx
          obtain ⟨q1, hq1⟩ := h1.1
          have e : eachL renNxt (x :: a) st = eachL renNxt a (eachF renNxt x st) := rfl
          rw [e]
          refine ⟨⟨q1 ++ q2, by rw [hq2, hq1, List.append_assoc]⟩, ?_⟩
          unfold exL renamedL
          have h3 := h1.2
          rw [← List.append_assoc, ← hq2] at h3
          rw [h3, h2.2]
      have e : eachF renNxt (T.mk k n s l) st = eachL renNxt l st := by unfold eachF; rw [if_neg hk]
      rw [e]
      refine ⟨(h st r).1, ?_⟩
      unfold exF renamedF
      rw [if_neg hk, if_neg hk, (h st r).2]
/-- Renaming puts the places of the numbers; the numbers are the variables. -/
theorem renF_is (t : T) (hr : t.right = true) : renF t = (renamedF (varsF t) t, varsF t) := by
  have := (ren_is t [] [] hr).2
  rw [List.append_nil] at this
  exact this
end
end Go.Proofs.Ythfilpacmllhpab.terms
/- Terms: the laws' sizes, alike. -/
namespace Go.Proofs.Ythfilpacmllhpab.terms
set_option maxRecDepth 100000
section
open Go.RowKit Go.Proofs.Ythfilpacmllhpab.own Go.Maps
end
end Go.Proofs.Ythfilpacmllhpab.terms
/- Terms: the laws' many. -/
namespace Go.Proofs.Ythfilpacmllhpab.terms
set_option maxRecDepth 100000
section
open Go.RowKit Go.Proofs.Ythfilpacmllhpab.own Go.Maps
def manyF (l : List T) : Bool := l.any T.Big || decide (10000 < sizes l)
end
end Go.Proofs.Ythfilpacmllhpab.terms
