

/- Terms: each variable is visited, and what follows: 7 texts in one. -/
import Derived.Test.YthfilpacmllhpabTermB
import Derived.Outline
import Derived.Laws.ResultCell
/- Terms: each variable is visited. -/
namespace Go.Proofs.Ythfilpacmllhpab.terms
set_option maxRecDepth 100000
section
open Go.RowKit Go.Proofs.Ythfilpacmllhpab.own Go.Maps
section
variable {σ : Type}
mutual
def eachF (nxt : σ → Int → σ) : T → σ → σ | .mk k n _ l, st => eachL nxt l (if k = 1 then nxt st n else st)
def eachL (nxt : σ → Int → σ) : List T → σ → σ | [], st => st | x :: r, st => eachL nxt r (eachF nxt x st)
end
variable {nxt : σ → Int → σ}
theorem eachL_append (a b : List T) (st : σ) : eachL nxt (a ++ b) st = eachL nxt b (eachL nxt a st) := by
  induction a generalizing st with
  | nil => rfl
  | cons x r ih => simp only [List.cons_append, eachL, ih]
theorem eachL_step {l : List T} {i : Nat} {x : T} (h : l[i]? = some x) (st : σ) : eachL nxt (l.take (i + 1)) st = eachF nxt x (eachL nxt (l.take i) st) := by
  rw [take_snoc h, eachL_append]
  rfl
/-- What a visitor leaves. -/
def VPost (I : σ → (Nat → Prop) → World → Prop) (w : World) (S : Nat → Prop) (st' : σ) (e : Ending) (w' : World) : Prop := ∃ S', e = .returned (.tuple #[]) ∧ I st' S' w' ∧ Only S w w' ∧ ∀ k, S' k → Grew S w w' k
structure Visit (K : Nat) (caps : Array Value) (good : Int → Prop) (I : σ → (Nat → Prop) → World → Prop) (nxt : σ → Int → σ) : Prop where
  ent : ∀ args w, (callFunc K args).run Try.prog w = .ok (.enter K args) w
  call : ∀ st S n w, I st S w → good n → Calls Try.prog K (#[.int .i64 n] ++ caps) w (VPost I w S (nxt st n))
  stays : ∀ st S S'' w w', I st S w → Only S'' w w' → (∀ k, S k → ¬ S'' k) → I st S w'
  lt : ∀ st S w, I st S w → ∀ k, S k → k < w.heap.size
variable {K : Nat} {caps : Array Value} {good : Int → Prop} {I : σ → (Nat → Prop) → World → Prop}
end
end
end Go.Proofs.Ythfilpacmllhpab.terms
/- Terms: Vars, Ground. -/
namespace Go.Proofs.Ythfilpacmllhpab.terms
set_option maxRecDepth 100000
section
open Go.RowKit Go.Proofs.Ythfilpacmllhpab.own Go.Maps
def varsF (t : T) : List Int := eachF renNxt t []
/-- Ground: the flag is on until a variable is met. -/
def GrI (gb : Nat) (g : Bool) (S : Nat → Prop) (w : World) : Prop := w.heap[gb]? = some (.cells #[.bool g] 4 (0, 0)) ∧ ∀ k, S k ↔ k = gb
def groundF (t : T) : Bool := eachF (fun _ _ => false) t true
theorem allv_true (t : T) : t.allv (fun _ => True) := allv_mono (fun _ _ => trivial) t (allv_occ t)
end
end Go.Proofs.Ythfilpacmllhpab.terms
/- Terms: same. -/
namespace Go.Proofs.Ythfilpacmllhpab.terms
set_option maxRecDepth 100000
section
open Go.RowKit Go.Proofs.Ythfilpacmllhpab.own Go.Maps
end
end Go.Proofs.Ythfilpacmllhpab.terms
/- Terms: Same, Variant. -/
namespace Go.Proofs.Ythfilpacmllhpab.terms
set_option maxRecDepth 100000
section
open Go.RowKit Go.Proofs.Ythfilpacmllhpab.own Go.Maps
theorem Row.two {w : World} {t u : T} {ao bo : Option Addr} {cap bcap : Nat} (hl : Lies w ao t.l) (hs : t.Sane) (hl' : Lies w bo u.l) (hs' : u.Sane) (w1 : World) (ho : Only (fun _ => False) w w1) (b : Nat) (hb : w1.heap[b]? = some (.cells #[.int .i64 t.k, .int .i64 t.n, .string t.s, .slice ao t.l.length cap, .int .i64 u.k, .int .i64 u.n, .string u.s, .slice bo u.l.length bcap] 31 (0, 0))) : Lies w1 (some ⟨b, 0, none⟩) [t, u] := by
  have hlt := lt_of_block hb
  refine .mk _ _ (fun i => if i = 0 then ao else bo) (fun i => if i = 0 then cap else bcap) (fun i x hx => ?_) (fun i x hx => ?_)
  · match i, hx with
    | 0, hx =>
      simp only [List.getElem?_cons_zero, Option.some.injEq] at hx
      subst hx
      refine ⟨b, 0, rfl, hlt, ?_, ?_, ?_, ?_, hs, free_of_blk hb _⟩ <;> (rw [cell_of_blk hb]; rfl)
    | 1, hx =>
      simp only [List.getElem?_cons_succ, List.getElem?_cons_zero, Option.some.injEq] at hx
      subst hx
      refine ⟨b, 0, rfl, hlt, ?_, ?_, ?_, ?_, hs', free_of_blk hb _⟩ <;> (rw [cell_of_blk hb]; rfl)
    | i + 2, hx => simp at hx
  · match i, hx with
    | 0, hx =>
      simp only [List.getElem?_cons_zero, Option.some.injEq] at hx
      subst hx
      exact hl.later ho
    | 1, hx =>
      simp only [List.getElem?_cons_succ, List.getElem?_cons_zero, Option.some.injEq] at hx
      subst hx
      exact hl'.later ho
    | i + 2, hx => simp at hx
theorem pair_world (w : World) (k n : Int) (s : ByteArray) (l : List T) (ao : Option Addr) (cap : Nat) (k' n' : Int) (s' : ByteArray) (l' : List T) (bo : Option Addr) (bcap : Nat) :
    (((w.alloc (.cells #[.int .i64 k, .int .i64 n, .string s, .slice ao l.length cap] 31)).alloc (.cells #[.int .i64 k', .int .i64 n', .string s', .slice bo l'.length bcap] 31)).alloc (.cells #[.int .i64 k, .int .i64 n, .string s, .slice ao l.length cap, .int .i64 k', .int .i64 n', .string s', .slice bo l'.length bcap] 31)).heap[w.heap.size + 1 + 1]? = some (.cells #[.int .i64 k, .int .i64 n, .string s, .slice ao l.length cap, .int .i64 k', .int .i64 n', .string s', .slice bo l'.length bcap] 31 (0, 0)) ∧ Only (fun _ => False) w (((w.alloc (.cells #[.int .i64 k, .int .i64 n, .string s, .slice ao l.length cap] 31)).alloc (.cells #[.int .i64 k', .int .i64 n', .string s', .slice bo l'.length bcap] 31)).alloc (.cells #[.int .i64 k, .int .i64 n, .string s, .slice ao l.length cap, .int .i64 k', .int .i64 n', .string s', .slice bo l'.length bcap] 31)) ∧ BoxAt w.heap.size k n s ao l.length cap (((w.alloc (.cells #[.int .i64 k, .int .i64 n, .string s, .slice ao l.length cap] 31)).alloc (.cells #[.int .i64 k', .int .i64 n', .string s', .slice bo l'.length bcap] 31)).alloc (.cells #[.int .i64 k, .int .i64 n, .string s, .slice ao l.length cap, .int .i64 k', .int .i64 n', .string s', .slice bo l'.length bcap] 31)) ∧ BoxAt (w.heap.size + 1) k' n' s' bo l'.length bcap (((w.alloc (.cells #[.int .i64 k, .int .i64 n, .string s, .slice ao l.length cap] 31)).alloc (.cells #[.int .i64 k', .int .i64 n', .string s', .slice bo l'.length bcap] 31)).alloc (.cells #[.int .i64 k, .int .i64 n, .string s, .slice ao l.length cap, .int .i64 k', .int .i64 n', .string s', .slice bo l'.length bcap] 31)) ∧ (((w.alloc (.cells #[.int .i64 k, .int .i64 n, .string s, .slice ao l.length cap] 31)).alloc (.cells #[.int .i64 k', .int .i64 n', .string s', .slice bo l'.length bcap] 31)).alloc (.cells #[.int .i64 k, .int .i64 n, .string s, .slice ao l.length cap, .int .i64 k', .int .i64 n', .string s', .slice bo l'.length bcap] 31)).heap.size = w.heap.size + 3 := by
  have h1 := BoxAt.new w k n s ao l.length cap
  have h2 := BoxAt.new (w.alloc (.cells #[.int .i64 k, .int .i64 n, .string s, .slice ao l.length cap] 31)) k' n' s' bo l'.length bcap
  unfold boxW at h1 h2
  refine ⟨?_, ((Only.alloc _ _ _).same (Only.alloc _ _ _)).same (Only.alloc _ _ _), h1.later ((Only.alloc _ _ _).same (Only.alloc _ _ _)), ?_, by simp⟩
  · have := heap_alloc_new ((w.alloc (.cells #[.int .i64 k, .int .i64 n, .string s, .slice ao l.length cap] 31)).alloc (.cells #[.int .i64 k', .int .i64 n', .string s', .slice bo l'.length bcap] 31)) (.cells #[.int .i64 k, .int .i64 n, .string s, .slice ao l.length cap, .int .i64 k', .int .i64 n', .string s', .slice bo l'.length bcap] 31)
    simpa using this
  · have := h2.later (Only.alloc (fun _ => False) _ (.cells #[.int .i64 k, .int .i64 n, .string s, .slice ao l.length cap, .int .i64 k', .int .i64 n', .string s', .slice bo l'.length bcap] 31))
    simpa using this
end
end Go.Proofs.Ythfilpacmllhpab.terms
/- Terms: lists' items. -/
namespace Go.Proofs.Ythfilpacmllhpab.terms
set_option maxRecDepth 100000
section
open Go.RowKit Go.Proofs.Ythfilpacmllhpab.own Go.Maps
def T.pair (t : T) : Bool := (t.k == 4) && (decide (t.s.toList = [46]) && decide (t.l.length = 2))
theorem T.pair_iff {t : T} : t.pair = true ↔ t.k = 4 ∧ t.s.toList = [46] ∧ t.l.length = 2 := by
  unfold T.pair
  simp
theorem T.pair_list {t : T} (h : t.pair = true) : ∃ x y, t.l = [x, y] := by
  have h2 := (T.pair_iff.1 h).2.2
  match hl : t.l, h2 with
  | [x, y], _ => exact ⟨x, y, rfl⟩
theorem depth_last {t : T} {x y : T} (h : t.l = [x, y]) : y.depth < t.depth := by
  obtain ⟨k, n, s, l⟩ := t
  simp only [T.l] at h
  subst h
  show y.depth < depths [x, y] + 1
  have := depth_mem (l := [x, y]) (x := y) (by simp)
  omega
def itemsF (t : T) : List T × T :=
  if t.pair = true then
    match h : t.l with
    | [x, y] => (x :: (itemsF y).1, (itemsF y).2)
    | _ => ([], t)
  else ([], t)
termination_by t.depth
decreasing_by all_goals exact depth_last h
theorem itemsF_end {t : T} (h : t.pair = false) : itemsF t = ([], t) := by
  rw [itemsF, if_neg (by rw [h]; decide)]
theorem itemsF_pair {t x y : T} (h : t.pair = true) (hl : t.l = [x, y]) : itemsF t = (x :: (itemsF y).1, (itemsF y).2) := by
  rw [itemsF, if_pos h]
  split
  · rename_i x' y' h'
    rw [hl] at h'
    cases h'
    rfl
  · rename_i h'
    exact absurd hl (h' x y)
end
end Go.Proofs.Ythfilpacmllhpab.terms
/- Terms: Items. -/
namespace Go.Proofs.Ythfilpacmllhpab.terms
set_option maxRecDepth 100000
section
open Go.RowKit Go.Proofs.Ythfilpacmllhpab.own Go.Maps
theorem T.Ok.sub {t x : T} (h : t.Ok) (hx : x ∈ t.l) : x.Ok := by
  obtain ⟨k, n, s, l⟩ := t
  simp only [T.l] at hx
  have h1 := h.right
  rw [T.right_eq, Bool.and_eq_true] at h1
  have h2 := h.depth
  have h3 := h.size
  have h4 := depth_mem hx
  have h5 := size_mem hx
  have e2 : (T.mk k n s l).depth = depths l + 1 := rfl
  have e3 : (T.mk k n s l).size = 1 + sizes l := rfl
  exact ⟨rights_iff.1 h1.2 x hx, by omega, by omega⟩
/-- Items' loop under way: the items so far, and what is left of the list. -/
structure ItmI (w : World) (t : T) (its : List It) (oo : Option Addr) (oc : Nat) (u : T) (uo : Option Addr) (uc : Nat) (wr : World) : Prop where
  box : Quad w.heap.size (.int .i64 u.k) (.int .i64 u.n) (.string u.s) (.slice uo u.l.length uc) wr
  res : Quad (w.heap.size + 1) (.int .i64 0) (.int .i64 0) (.string ⟨#[]⟩) (.slice none 0 0) wr
  own : Only (fun _ => False) w wr
  lies : Lies w uo u.l
  sane : u.Sane
  ok : u.Ok
  row : ItsP (w.heap.size + 3) oo oc its wr
  subs : ∀ (i : Nat) (x : It), its[i]? = some x → x.t.Sane ∧ Row (fun q => w.heap.size + 3 ≤ q ∧ q < wr.heap.size ∧ ¬ RowAt oo q) wr x.ao x.t.l
  eq : itemsF t = (its.map (·.t) ++ (itemsF u).1, (itemsF u).2)
  len : its.length + u.depth ≤ t.depth
  size : w.heap.size + 3 ≤ wr.heap.size
theorem ItmI.later {w : World} {t : T} {its : List It} {oo : Option Addr} {oc : Nat} {u : T} {uo : Option Addr} {uc : Nat} {wr w' : World} (h : ItmI w t its oo oc u uo uc wr) (ho : Only (fun _ => False) wr w') : ItmI w t its oo oc u uo uc w' :=
  { h with
    box := h.box.only ho (fun e => e)
    res := h.res.only ho (fun e => e)
    own := h.own.same ho
    row := h.row.only ho (fun _ _ e => e)
    subs := fun i x hx => ⟨(h.subs i x hx).1, ((h.subs i x hx).2.only ho (fun q hq => hq.2.1) (fun _ _ e => e)).mono (fun q hq => ⟨hq.1, Nat.lt_of_lt_of_le hq.2.1 ho.size, hq.2.2⟩)⟩
    size := Nat.le_trans h.size ho.size }
/-- An item more: it was copied, put behind the others; what is left is in the box. -/
theorem ItmI.step {w : World} {t : T} {its : List It} {oo oo' : Option Addr} {oc oc' : Nat} {u x y : T} {uo yo : Option Addr} {uc yc : Nat} {w1 w2 w3 w4 : World} {co : Option Addr} {cc : Nat}
    (h : ItmI w t its oo oc u uo uc w1) (hp : u.pair = true) (hl : u.l = [x, y]) (hxs : x.Sane) (hrow : Row (fun q => w1.heap.size ≤ q ∧ q < w2.heap.size) w2 co x.l) (ho2 : Only (fun _ => False) w1 w2)
    (hr3 : ItsP (w.heap.size + 3) oo' oc' (its ++ [⟨x, co, cc⟩]) w3) (ho3 : Only (RowAt oo) w2 w3) (hnew : NewRow w2.heap.size oo oo') (hys : y.Sane) (hyl : Lies w yo y.l)
    (hq4 : Quad w.heap.size (.int .i64 y.k) (.int .i64 y.n) (.string y.s) (.slice yo y.l.length yc) w4) (ho4 : Only (· = w.heap.size) w3 w4) :
    ItmI w t (its ++ [⟨x, co, cc⟩]) oo' oc' y yo yc w4 := by
  have hhead := h.row.head
  have hoo : ∀ k, RowAt oo k → w.heap.size + 3 ≤ k ∧ k < w1.heap.size := by
    rintro k ⟨g, hg, rfl⟩
    exact (hhead g hg).2
  have s1 := ho2.size
  have s2 := ho3.size
  have s3 := ho4.size
  have hsz := h.size
  have hnr : ∀ q, w.heap.size + 3 ≤ q → q < w2.heap.size → ¬ RowAt oo q → ¬ RowAt oo' q := by
    rintro q h1 h2 h3 ⟨g, hg, rfl⟩
    rcases hnew g hg with e | e
    · exact h3 ⟨g, e, rfl⟩
    · omega
  refine ⟨hq4, ((h.res.only ho2 (fun e => e)).only ho3 (fun e => by have := hoo _ e; omega)).only ho4 (by omega), ?_, hyl, hys, h.ok.sub (by rw [hl]; simp), ?_, fun i z hz => ?_, ?_, ?_, by omega⟩
  · exact Only.cut (Only.cut (h.own.same ho2) ho3 (fun k e => by have := hoo k e; omega)) ho4 (fun k e => by omega)
  · refine hr3.only ho4 (fun g hg e => ?_)
    have := (hr3.head g hg).2.1
    omega
  · by_cases hi : i < its.length
    · rw [List.getElem?_append_left hi] at hz
      have hsub := h.subs i z hz
      refine ⟨hsub.1, ((((hsub.2.only ho2 (fun q hq => hq.2.1) (fun _ _ e => e)).only ho3 (fun q hq => by have := hq.2.1; omega) (fun q hq => hq.2.2)).only ho4 (fun q hq => by have := hq.2.1; omega) (fun q hq e => by have := hq.1; omega)).mono (fun q hq => ⟨hq.1, by have := hq.2.1; omega, hnr q hq.1 (by have := hq.2.1; omega) hq.2.2⟩))⟩
    · rw [List.getElem?_append_right (by omega)] at hz
      have hi0 : i - its.length = 0 := by
        cases hc : i - its.length with
        | zero => rfl
        | succ m => rw [hc] at hz; simp at hz
      rw [hi0] at hz
      simp only [List.getElem?_cons_zero, Option.some.injEq] at hz
      subst hz
      have hno : ∀ q, w1.heap.size ≤ q → ¬ RowAt oo q := fun q hq e => by have := hoo q e; omega
      refine ⟨hxs, (((hrow.only ho3 (fun q hq => hq.2) (fun q hq => hno q hq.1)).only ho4 (fun q hq => by have := hq.2; omega) (fun q hq e => by have := hq.1; omega)).mono (fun q hq => ⟨by have := hq.1; omega, by have := hq.2; omega, hnr q (by have := hq.1; omega) hq.2 (hno q hq.1)⟩))⟩
  · rw [h.eq, itemsF_pair hp hl]
    simp
  · have := h.len
    have := depth_last hl
    simp only [List.length_append, List.length_cons, List.length_nil]
    omega
end
end Go.Proofs.Ythfilpacmllhpab.terms
/- Terms: Items. -/
namespace Go.Proofs.Ythfilpacmllhpab.terms
set_option maxRecDepth 100000
section
open Go.RowKit Go.Proofs.Ythfilpacmllhpab.own Go.Maps
theorem ItsP.rowAny {P : Nat → Prop} {B cap : Nat} {oo : Option Addr} {xs : List It} {w : World} (h : ItsP B oo cap xs w) (hP : ∀ q, B ≤ q → q < w.heap.size → P q) (hs : ∀ (i : Nat) (x : It), xs[i]? = some x → x.t.Sane ∧ Row P w x.ao x.t.l) : Row P w oo (xs.map (·.t)) := by
  cases xs with
  | nil => exact Row.nil _ _ _
  | cons x r =>
    obtain ⟨g, hg, hB, _⟩ := h.at liesIt 0 x rfl
    have := (h.head _ hg).2
    subst hg
    exact h.row (hP g this.1 this.2) hs
theorem results_tmp_cell {fn : Func} {p u : Tmp} {ty : TypeId} (h : fn.results = #[.tmp u, .cell p ty]) (tmps : Array Value) (P : Program) (w : World) :
    (results fn tmps).run P w =
      ((asAddr (tmps.getD p undef)).run P w).andThen fun a w₁ => ((loadVar ty a).run P w₁).andThen fun v w₂ => .ok (.tuple #[tmps.getD u undef, v]) w₂ := by
  simp only [results, h]
  simp [Sem.run_bind, Result.andThen]
theorem results_tmp_term {fn : Func} {p u : Tmp} (h : fn.results = #[.tmp u, .cell p 31]) (tmps : Array Value) (w : World) (b : Nat) (x0 x1 x2 x3 x4 : Value) (ha : tmps.getD p undef = .pointer (some ⟨b, 0, none⟩)) (hu : tmps.getD u undef = x4) (h0 : w.cell? ⟨b, 0, none⟩ = some x0) (h1 : w.cell? ⟨b, 1, none⟩ = some x1) (h2 : w.cell? ⟨b, 2, none⟩ = some x2) (h3 : w.cell? ⟨b, 3, none⟩ = some x3) :
    (results fn tmps).run Try.prog w = .ok (.tuple #[x4, .agg #[x0, x1, x2, x3]]) w := by
  rw [results_tmp_cell h, ha, hu]
  go_simp
end
end Go.Proofs.Ythfilpacmllhpab.terms
