

/- Finite terms: the plain part, and what follows: 9 texts in one. -/
import Derived.Test.YthfilpacmllhpabRows
import Derived.Test.YthfilpacmllhpabOwn
import Derived.Lib.Hide
import Derived.StillTailTactics
import Derived.IntWalk
import Derived.OwnWalk
/- Finite terms: the plain part. -/
namespace Go.Proofs.Ythfilpacmllhpab.terms
section
/-- A term: its kind, its number, its name, its arguments. -/
inductive T where
  | mk (k n : Int) (s : ByteArray) (l : List T)
namespace T
def k : T → Int | .mk k _ _ _ => k
def n : T → Int | .mk _ n _ _ => n
def s : T → ByteArray | .mk _ _ s _ => s
def l : T → List T | .mk _ _ _ l => l
end T
theorem T.eta (t : T) : t = .mk t.k t.n t.s t.l := by cases t; rfl
theorem T.ind {P : T → Prop} (h : ∀ k n s l, (∀ x ∈ l, P x) → P (.mk k n s l)) : ∀ t, P t := by
  intro t
  refine T.rec (motive_1 := P) (motive_2 := fun l => ∀ x ∈ l, P x) (fun k n s l ih => h k n s l ih) (fun x hx => by cases hx) (fun x r hx hr => ?_) t
  intro y hy
  rcases List.mem_cons.1 hy with rfl | hy
  · exact hx
  · exact hr y hy
instance : Inhabited T := ⟨.mk 0 0 ⟨#[]⟩ []⟩
/-- Is it one, its arguments not asked? -/
def T.part (t : T) : Bool :=
  if t.k = 1 then (if 0 ≤ t.n then (if t.n < 1073741824 then (if t.s.toList = [] then ((t.l.length : Int) == 0) else false) else false) else false)
  else if t.k = 2 then (if -9007199254740991 ≤ t.n then (if t.n ≤ 9007199254740991 then (if t.s.toList = [] then ((t.l.length : Int) == 0) else false) else false) else false)
  else if t.k = 3 then (if t.n = 0 then (if (t.s.size : Int) ≤ 64 then ((t.l.length : Int) == 0) else false) else false)
  else if t.k = 4 then (if t.n = 0 then (if (t.s.size : Int) ≤ 64 then (if 1 ≤ (t.l.length : Int) then decide ((t.l.length : Int) ≤ 16) else false) else false) else false)
  else false
mutual
def T.size : T → Nat | .mk _ _ _ l => 1 + sizes l
def sizes : List T → Nat | [] => 0 | x :: r => x.size + sizes r
end
mutual
def T.depth : T → Nat | .mk _ _ _ l => depths l + 1
def depths : List T → Nat | [] => 0 | x :: r => max x.depth (depths r)
end
mutual
def T.right : T → Bool | .mk k n s l => (T.mk k n s l).part && rights l
def rights : List T → Bool | [] => true | x :: r => x.right && rights r
end
theorem sizes_append (a b : List T) : sizes (a ++ b) = sizes a + sizes b := by
  induction a with
  | nil => simp [sizes]
  | cons x r ih => simp only [List.cons_append, sizes, ih]; omega
theorem take_snoc {α : Type} {l : List α} {i : Nat} {x : α} (h : l[i]? = some x) : l.take (i + 1) = l.take i ++ [x] := by
  rw [List.take_add_one, h]; rfl
theorem sizes_step {l : List T} {i : Nat} {x : T} (h : l[i]? = some x) : sizes (l.take (i + 1)) = sizes (l.take i) + x.size := by
  rw [take_snoc h, sizes_append]
  simp [sizes]
theorem sizes_split {l : List T} {i : Nat} {x : T} (h : l[i]? = some x) : sizes l = sizes (l.take i) + x.size + sizes (l.drop (i + 1)) := by
  have e : l = l.take (i + 1) ++ l.drop (i + 1) := (List.take_append_drop _ _).symm
  conv => lhs; rw [e]
  rw [sizes_append, sizes_step h]
theorem size_mem {l : List T} {x : T} (h : x ∈ l) : x.size ≤ sizes l := by
  obtain ⟨i, hi⟩ := List.getElem?_of_mem h
  have := sizes_split hi
  omega
theorem T.size_eq (t : T) : t.size = 1 + sizes t.l := by cases t; rfl
theorem T.depth_eq (t : T) : t.depth = depths t.l + 1 := by cases t; rfl
theorem T.right_eq (t : T) : t.right = (t.part && rights t.l) := by cases t; rfl
theorem depths_append (a b : List T) : depths (a ++ b) = max (depths a) (depths b) := by
  induction a with
  | nil => simp [depths]
  | cons x r ih => simp only [List.cons_append, depths, ih]; omega
theorem depths_step {l : List T} {i : Nat} {x : T} (h : l[i]? = some x) : depths (l.take (i + 1)) = max (depths (l.take i)) x.depth := by
  rw [take_snoc h, depths_append]
  simp [depths]
theorem depth_mem {l : List T} {x : T} (h : x ∈ l) : x.depth ≤ depths l := by
  induction l with
  | nil => cases h
  | cons y r ih =>
    rcases List.mem_cons.1 h with rfl | h
    · simp only [depths]; omega
    · have := ih h; simp only [depths]; omega
theorem rights_append (a b : List T) : rights (a ++ b) = (rights a && rights b) := by
  induction a with
  | nil => simp [rights]
  | cons x r ih => simp only [List.cons_append, rights, ih, Bool.and_assoc]
theorem rights_iff {l : List T} : rights l = true ↔ ∀ x ∈ l, x.right = true := by
  induction l with
  | nil => simp [rights]
  | cons x r ih => simp [rights, ih]
theorem rights_step {l : List T} {i : Nat} {x : T} (h : l[i]? = some x) : rights (l.take (i + 1)) = (rights (l.take i) && x.right) := by
  rw [take_snoc h, rights_append]
  simp [rights]
theorem depth_le_size (t : T) : t.depth ≤ t.size := by
  induction t using T.ind with
  | h k n s l ih =>
    show depths l + 1 ≤ 1 + sizes l
    have : depths l ≤ sizes l := by
      clear k n s
      induction l with
      | nil => simp [depths]
      | cons x r ihr =>
        have h1 := ih x (by simp)
        have h2 := ihr (fun y hy => ih y (by simp [hy]))
        simp only [depths, sizes]
        omega
    omega
theorem length_le_sizes (l : List T) : l.length ≤ sizes l := by
  induction l with
  | nil => simp
  | cons x r ih => have := x.size_eq; simp only [List.length_cons, sizes]; omega
end
end Go.Proofs.Ythfilpacmllhpab.terms
/- Terms in memory; how many parts. -/
namespace Go.Proofs.Ythfilpacmllhpab.terms
section
open Go.RowKit Go.Proofs.Ythfilpacmllhpab.own
def Fits (x : Int) : Prop := -9223372036854775808 ≤ x ∧ x ≤ 9223372036854775807
/-- A term as a value: its arguments lie at ao. -/
abbrev tv (t : T) (ao : Option Addr) (cap : Nat) : Value := .agg #[.int .i64 t.k, .int .i64 t.n, .string t.s, .slice ao t.l.length cap]
/-- A term's own fields fit Go's. -/
structure T.Sane (t : T) : Prop where
  k : Fits t.k
  n : Fits t.n
  s : t.s.size ≤ maxLen
  l : t.l.length ≤ maxLen
/-- A list of terms lies at ao, in blocks of which P tells. -/
inductive Row (P : Nat → Prop) (w : World) : Option Addr → List T → Prop
  | mk (ao : Option Addr) (l : List T) (ro : Nat → Option Addr) (rc : Nat → Nat)
    (cells : ∀ i x, l[i]? = some x → ∃ b off, ao = some ⟨b, off, none⟩ ∧ P b ∧ w.cell? ⟨b, off + i * 4, none⟩ = some (.int .i64 x.k) ∧ w.cell? ⟨b, off + i * 4 + 1, none⟩ = some (.int .i64 x.n) ∧ w.cell? ⟨b, off + i * 4 + 2, none⟩ = some (.string x.s) ∧ w.cell? ⟨b, off + i * 4 + 3, none⟩ = some (.slice (ro i) x.l.length (rc i)) ∧ x.Sane ∧ w.frozen? ⟨b, off + i * 4, none⟩ = false)
    (subs : ∀ i x, l[i]? = some x → Row P w (ro i) x.l) : Row P w ao l
theorem Row.nil (P : Nat → Prop) (w : World) (ao : Option Addr) : Row P w ao [] := .mk ao [] (fun _ => none) (fun _ => 0) (fun i x h => by simp at h) (fun i x h => by simp at h)
theorem Row.at {P : Nat → Prop} {w : World} {ao : Option Addr} {l : List T} (h : Row P w ao l) {i : Nat} {x : T} (hx : l[i]? = some x) : ∃ b off ro rc, ao = some ⟨b, off, none⟩ ∧ P b ∧ w.cell? ⟨b, off + i * 4, none⟩ = some (.int .i64 x.k) ∧ w.cell? ⟨b, off + i * 4 + 1, none⟩ = some (.int .i64 x.n) ∧ w.cell? ⟨b, off + i * 4 + 2, none⟩ = some (.string x.s) ∧ w.cell? ⟨b, off + i * 4 + 3, none⟩ = some (.slice ro x.l.length rc) ∧ x.Sane ∧ Row P w ro x.l := by
  cases h with
  | mk ao l ro rc cells subs =>
    obtain ⟨b, off, h1, h2, h3, h4, h5, h6, h7⟩ := cells i x hx
    exact ⟨b, off, ro i, rc i, h1, h2, h3, h4, h5, h6, h7.1, subs i x hx⟩
/-- No item's first cell is frozen. -/
theorem Row.cold {P : Nat → Prop} {w : World} {b off : Nat} {l : List T} (h : Row P w (some ⟨b, off, none⟩) l) {i : Nat} {x : T} (hx : l[i]? = some x) : w.frozen? ⟨b, off + i * 4, none⟩ = false := by
  cases h with
  | mk ao l ro rc cells subs =>
    obtain ⟨b', off', h1, h2, h3, h4, h5, h6, h7⟩ := cells i x hx
    cases h1
    exact h7.2
theorem Row.only {P S : Nat → Prop} {w w' : World} {ao : Option Addr} {l : List T} (h : Row P w ao l) (ho : Only S w w') (hlt : ∀ k, P k → k < w.heap.size) (hS : ∀ k, P k → ¬ S k) : Row P w' ao l := by
  induction h with
  | mk ao l ro rc cells subs ih =>
    refine .mk ao l ro rc (fun i x hx => ?_) ih
    obtain ⟨b, off, h1, h2, h3, h4, h5, h6, h7⟩ := cells i x hx
    have hb := hlt b h2
    have hn := hS b h2
    exact ⟨b, off, h1, h2, (ho.cell (p := ⟨b, off + i * 4, none⟩) hb hn).trans h3, (ho.cell (p := ⟨b, off + i * 4 + 1, none⟩) hb hn).trans h4, (ho.cell (p := ⟨b, off + i * 4 + 2, none⟩) hb hn).trans h5, (ho.cell (p := ⟨b, off + i * 4 + 3, none⟩) hb hn).trans h6, h7.1, (ho.frozen (p := ⟨b, off + i * 4, none⟩) hb hn).trans h7.2⟩
theorem Row.mono {P Q : Nat → Prop} {w : World} {ao : Option Addr} {l : List T} (h : Row P w ao l) (hPQ : ∀ k, P k → Q k) : Row Q w ao l := by
  induction h with
  | mk ao l ro rc cells subs ih =>
    refine .mk ao l ro rc (fun i x hx => ?_) ih
    obtain ⟨b, off, h1, h2, h3⟩ := cells i x hx
    exact ⟨b, off, h1, hPQ b h2, h3⟩
/-- A list of terms lies in what was there when w was. -/
abbrev Lies (w : World) (ao : Option Addr) (l : List T) : Prop := Row (fun k => k < w.heap.size) w ao l
theorem Row.later {w w' : World} {ao : Option Addr} {l : List T} (h : Row (fun k => k < w.heap.size) w ao l) (ho : Only (fun _ => False) w w') : Lies w' ao l :=
  (Row.only h ho (fun _ e => e) (fun _ _ e => e)).mono (fun k hk => Nat.lt_of_lt_of_le hk ho.size)
end
end Go.Proofs.Ythfilpacmllhpab.terms
/- Terms: is it one, its arguments not asked. -/
namespace Go.Proofs.Ythfilpacmllhpab.terms
section
open Go.RowKit Go.Proofs.Ythfilpacmllhpab.own
theorem blk_later {w w2 : World} {b : Nat} {cs : Array Value} {t : TypeId} (h : w.heap[b]? = some (.cells cs t (0, 0))) (ho : Only (fun _ => False) w w2) : w2.heap[b]? = some (.cells cs t (0, 0)) := by
  rw [ho.block b (lt_of_block h) (fun e => e)]
  exact h
theorem retb {a b : Bool} (h : a = b) : Ending.returned (.bool a) = .returned (.bool b) := by rw [h]
end
end Go.Proofs.Ythfilpacmllhpab.terms
/- Terms: how deep; the document's sizes; are all parts ones. -/
namespace Go.Proofs.Ythfilpacmllhpab.terms
section
open Go.RowKit Go.Proofs.Ythfilpacmllhpab.own
theorem reti {k : IntKind} {a b : Int} (h : a = b) : Ending.returned (.int k a) = .returned (.int k b) := by rw [h]
/-- The parameter's own cells. -/
abbrev boxW (w : World) (k n : Int) (s : ByteArray) (ao : Option Addr) (len cap : Nat) : World := w.alloc (.cells #[.int .i64 k, .int .i64 n, .string s, .slice ao len cap] 31)
def BoxAt (b : Nat) (k n : Int) (s : ByteArray) (ao : Option Addr) (len cap : Nat) (w : World) : Prop := w.heap[b]? = some (.cells #[.int .i64 k, .int .i64 n, .string s, .slice ao len cap] 31 (0, 0))
theorem BoxAt.new (w : World) (k n : Int) (s : ByteArray) (ao : Option Addr) (len cap : Nat) : BoxAt w.heap.size k n s ao len cap (boxW w k n s ao len cap) := heap_alloc_new w _
theorem BoxAt.later {b : Nat} {k n : Int} {s : ByteArray} {ao : Option Addr} {len cap : Nat} {w w' : World} (h : BoxAt b k n s ao len cap w) (ho : Only (fun _ => False) w w') : BoxAt b k n s ao len cap w' := blk_later h ho
theorem BoxAt.cells {b : Nat} {k n : Int} {s : ByteArray} {ao : Option Addr} {len cap : Nat} {w : World} (h : BoxAt b k n s ao len cap w) : w.cell? ⟨b, 0, none⟩ = some (.int .i64 k) ∧ w.cell? ⟨b, 1, none⟩ = some (.int .i64 n) ∧ w.cell? ⟨b, 2, none⟩ = some (.string s) ∧ w.cell? ⟨b, 3, none⟩ = some (.slice ao len cap) := by
  refine ⟨?_, ?_, ?_, ?_⟩ <;> (rw [cell_of_blk h]; rfl)
set_option maxRecDepth 100000 in
set_option maxHeartbeats 1000000 in
theorem rsize_any (t : T) : ∀ (w : World) (ao : Option Addr) (cap : Nat), Lies w ao t.l → t.Sane → t.size ≤ 1152921504606846976 → Calls Try.prog 54 #[tv t ao cap] w fun e w' => e = .returned (.int .i64 (t.size : Nat)) ∧ Only (fun _ => False) w w' := by
  induction t using T.ind with
  | h k n s l ih =>
    intro w ao cap hl hs hz
    have HL := Lib.hid hl
    have HI := Lib.hid ih
    have hlen := hs.l
    have hz2 : 1 + sizes l ≤ 1152921504606846976 := hz
    unfold maxLen at hlen
    simp only [T.l] at hlen
    show Calls Try.prog 54 #[.agg #[.int .i64 k, .int .i64 n, .string s, .slice ao l.length cap]] w fun e w' => e = .returned (.int .i64 (1 + sizes l : Nat)) ∧ Only (fun _ => False) w w'
    clear hl ih hs hz
    go_enter Try.func54, Try.ntmps54
    go_wp2_with fail
    have HB := Lib.hid (BoxAt.new w k n s ao l.length cap)
    have HO : Hid (Only (fun _ => False) w (w.alloc (.cells #[.int .i64 k, .int .i64 n, .string s, .slice ao l.length cap] 31))) := Lib.hid (Only.alloc _ _ _)
    unfold boxW at HB
    generalize w.heap.size = bx at *
    generalize w.alloc (.cells #[.int .i64 k, .int .i64 n, .string s, .slice ao l.length cap] 31) = w1 at *
    go_loopw [3, 4] (fun v i wr => ∃ j : Nat, i = .int .i64 j ∧ j ≤ l.length ∧ v = .int .i64 ((1 + sizes (l.take j) : Nat)) ∧ Hid (Only (fun _ => False) w wr) ∧ Hid (BoxAt bx k n s ao l.length cap wr)) (fun _ i _ => l.length - (intOf i).toNat)
    case atStart => exact ⟨0, rfl, by omega, by simp [sizes], HO, HB⟩
    case round =>
      obtain ⟨j, rfl, hj, rfl, hR, hB⟩ := hrel
      clear HO HB
      have d3 := hB.out.cells.2.2.2
      by_cases hlt : j < l.length
      · obtain ⟨x, hx⟩ : ∃ x, l[j]? = some x := ⟨_, List.getElem?_eq_getElem hlt⟩
        obtain ⟨b, off, ro, rc, rfl, hb, c0, c1, c2, c3, hsane, hsub⟩ := (HL.out.later hR.out).at hx
        have hss := sizes_step hx
        have hsp := sizes_split hx
        have HX := Lib.hid (HI.out x (List.mem_of_getElem? hx))
        have HSA := Lib.hid hsane
        have HSUB := Lib.hid hsub
        have HE : Hid (sizes (l.take (j + 1)) = sizes (l.take j) + x.size) := Lib.hid hss
        have hbd : sizes (l.take j) + x.size ≤ sizes l := by omega
        clear hx hsane hsub hss hsp
        go_wp2_with fail
        refine (HX.out _ ro rc HSUB.out HSA.out (by omega)).mono ?_
        rintro e w2 ⟨rfl, ho2⟩
        have H2 : Hid (Only (fun _ => False) w w2) := Lib.hid (hR.out.same ho2)
        have B2 := Lib.hid (hB.out.later ho2)
        clear ho2
        go_wp2_with fail
        go_roundw
        case rel => exact ⟨j + 1, by go_num, by omega, by rw [HE.out]; go_num, H2, B2⟩
        case measure => simp [intOf]; omega
      · obtain rfl : j = l.length := by omega
        have HE : Hid (sizes (l.take l.length) = sizes l) := Lib.hid (by rw [List.take_length])
        go_wp2_with fail
        go_ret
        rw [HE.out]
        exact ⟨rfl, hR.out⟩
end
end Go.Proofs.Ythfilpacmllhpab.terms
/- Terms: have two the same fields. -/
namespace Go.Proofs.Ythfilpacmllhpab.terms
section
open Go.RowKit Go.Proofs.Ythfilpacmllhpab.own
mutual
def T.eqb : T → T → Bool | .mk k n s l, t => (k == t.k) && ((n == t.n) && (decide (s.toList = t.s.toList) && (decide (l.length = t.l.length) && eqbs l t.l)))
def eqbs : List T → List T → Bool | [], _ => true | x :: r, y :: q => x.eqb y && eqbs r q | _ :: _, [] => false
end
theorem ba_ext {a b : ByteArray} (h : a.toList = b.toList) : a = b := by
  rw [ByteArray.toList_eq, ByteArray.toList_eq] at h
  cases a; cases b
  simpa using h
theorem eqbs_step {a b : List T} {i : Nat} {x y : T} (hx : a[i]? = some x) (hy : b[i]? = some y) : eqbs (a.take (i + 1)) (b.take (i + 1)) = (eqbs (a.take i) (b.take i) && x.eqb y) := by
  induction a generalizing b i with
  | nil => simp at hx
  | cons p r ih =>
    cases b with
    | nil => simp at hy
    | cons q s =>
      cases i with
      | zero =>
        simp only [List.getElem?_cons_zero, Option.some.injEq] at hx hy
        subst hx hy
        simp [eqbs]
      | succ i =>
        simp only [List.getElem?_cons_succ] at hx hy
        have := ih hx hy
        simp only [List.take_succ_cons, eqbs]
        rw [this, Bool.and_assoc]
theorem eqbs_mem {a b : List T} {i : Nat} {x y : T} (hx : a[i]? = some x) (hy : b[i]? = some y) (h : eqbs a b = true) : x.eqb y = true := by
  induction a generalizing b i with
  | nil => simp at hx
  | cons p r ih =>
    cases b with
    | nil => simp at hy
    | cons q s =>
      rw [show eqbs (p :: r) (q :: s) = (p.eqb q && eqbs r s) from rfl, Bool.and_eq_true] at h
      cases i with
      | zero =>
        simp only [List.getElem?_cons_zero, Option.some.injEq] at hx hy
        subst hx hy
        exact h.1
      | succ i => exact ih (by simpa using hx) (by simpa using hy) h.2
theorem T.eqb_iff (a : T) : ∀ b, a.eqb b = true ↔ a = b := by
  induction a using T.ind with
  | h k n s l ih =>
    have hl : ∀ q : List T, l.length = q.length → (eqbs l q = true ↔ l = q) := by
      clear k n s
      induction l with
      | nil => intro q hq; cases q with
        | nil => simp [eqbs]
        | cons _ _ => simp at hq
      | cons x r ihr =>
        intro q hq
        cases q with
        | nil => simp at hq
        | cons y q =>
          rw [show eqbs (x :: r) (y :: q) = (x.eqb y && eqbs r q) from rfl, Bool.and_eq_true, ih x (by simp) y, ihr (fun z hz => ih z (by simp [hz])) q (by simpa using hq), List.cons.injEq]
    intro b
    obtain ⟨k', n', s', l'⟩ := b
    rw [show (T.mk k n s l).eqb (.mk k' n' s' l') = ((k == k') && ((n == n') && (decide (s.toList = s'.toList) && (decide (l.length = l'.length) && eqbs l l')))) from rfl]
    simp only [Bool.and_eq_true, beq_iff_eq, decide_eq_true_eq, T.mk.injEq]
    constructor
    · rintro ⟨h1, h2, h3, h4, h5⟩
      exact ⟨h1, h2, ba_ext h3, (hl l' h4).1 h5⟩
    · rintro ⟨h1, h2, h3, h4⟩
      subst h4
      exact ⟨h1, h2, by rw [h3], rfl, (hl l rfl).2 rfl⟩
theorem T.eqb_refl (a : T) : a.eqb a = true := (T.eqb_iff a a).2 rfl
set_option maxRecDepth 100000 in
set_option maxHeartbeats 2000000 in
theorem exact_any (a : T) : ∀ (b : T) (w : World) (ao bo : Option Addr) (cap bcap : Nat), Lies w ao a.l → a.Sane → Lies w bo b.l → b.Sane → Calls Try.prog 30 #[tv a ao cap, tv b bo bcap] w fun e w' => e = .returned (.bool (a.eqb b)) ∧ Only (fun _ => False) w w' := by
  induction a using T.ind with
  | h k n s l ih =>
    intro b w ao bo cap bcap hl hs hl' hs'
    obtain ⟨k', n', s', l'⟩ := b
    have HL := Lib.hid hl
    have HL' := Lib.hid hl'
    have HI := Lib.hid ih
    have hlen := hs.l
    have hlen' := hs'.l
    unfold maxLen at hlen hlen'
    simp only [T.l] at hlen hlen'
    show Calls Try.prog 30 #[.agg #[.int .i64 k, .int .i64 n, .string s, .slice ao l.length cap], .agg #[.int .i64 k', .int .i64 n', .string s', .slice bo l'.length bcap]] w fun e w' => e = .returned (.bool ((k == k') && ((n == n') && (decide (s.toList = s'.toList) && (decide (l.length = l'.length) && eqbs l l'))))) ∧ Only (fun _ => False) w w'
    clear hl ih hs hl' hs'
    by_cases h1 : k = k'
    · by_cases h2 : n = n'
      · by_cases h3 : s.toList = s'.toList
        · by_cases h4 : l.length = l'.length
          · subst h1 h2
            have e4 : (l.length : Int) = (l'.length : Int) := by omega
            have HE : Hid (((k == k) && ((n == n) && (decide (s.toList = s'.toList) && (decide (l.length = l'.length) && eqbs l l')))) = eqbs l l') := Lib.hid (by simp [h3, h4])
            go_enter Try.func30, Try.ntmps30
            go_wp2_with fail
            have HB1 : Hid (BoxAt w.heap.size k n s ao l'.length cap ((w.alloc (.cells #[.int .i64 k, .int .i64 n, .string s, .slice ao l'.length cap] 31)).alloc (.cells #[.int .i64 k, .int .i64 n, .string s', .slice bo l'.length bcap] 31))) := Lib.hid ((BoxAt.new w k n s ao l'.length cap).later (Only.alloc _ _ _))
            have HB2 : Hid (BoxAt (w.heap.size + 1) k n s' bo l'.length bcap ((w.alloc (.cells #[.int .i64 k, .int .i64 n, .string s, .slice ao l'.length cap] 31)).alloc (.cells #[.int .i64 k, .int .i64 n, .string s', .slice bo l'.length bcap] 31))) := Lib.hid (by have := BoxAt.new (w.alloc (.cells #[.int .i64 k, .int .i64 n, .string s, .slice ao l'.length cap] 31)) k n s' bo l'.length bcap; simpa using this)
            have HO : Hid (Only (fun _ => False) w ((w.alloc (.cells #[.int .i64 k, .int .i64 n, .string s, .slice ao l'.length cap] 31)).alloc (.cells #[.int .i64 k, .int .i64 n, .string s', .slice bo l'.length bcap] 31))) := Lib.hid ((Only.alloc _ _ _).same (Only.alloc _ _ _))
            generalize w.heap.size = bx at *
            generalize (w.alloc (.cells #[.int .i64 k, .int .i64 n, .string s, .slice ao l'.length cap] 31)).alloc (.cells #[.int .i64 k, .int .i64 n, .string s', .slice bo l'.length bcap] 31) = w1 at *
            have HLEN : Hid (l.length = l'.length) := Lib.hid h4
            clear e4 h4 h3
            go_loopw [5] (fun i wr => ∃ j : Nat, i = .int .i64 j ∧ j ≤ l'.length ∧ Hid (eqbs (l.take j) (l'.take j) = true) ∧ Hid (Only (fun _ => False) w wr) ∧ Hid (BoxAt bx k n s ao l'.length cap wr) ∧ Hid (BoxAt (bx + 1) k n s' bo l'.length bcap wr)) (fun i _ => l'.length - (intOf i).toNat)
            case atStart => exact ⟨0, rfl, by omega, Lib.hid (by simp [eqbs]), HO, HB1, HB2⟩
            case round =>
              obtain ⟨j, rfl, hj, hT, hR, hB1, hB2⟩ := hrel
              clear HO HB1 HB2
              have d3 := hB1.out.cells.2.2.2
              have g3 := hB2.out.cells.2.2.2
              by_cases hlt : j < l'.length
              · obtain ⟨x, hx⟩ : ∃ x, l[j]? = some x := ⟨_, List.getElem?_eq_getElem (by rw [HLEN.out]; exact hlt)⟩
                obtain ⟨y, hy⟩ : ∃ y, l'[j]? = some y := ⟨_, List.getElem?_eq_getElem hlt⟩
                obtain ⟨b, off, ro, rc, rfl, hb, c0, c1, c2, c3, hsane, hsub⟩ := (HL.out.later hR.out).at hx
                obtain ⟨b', off', ro', rc', rfl, hb', c0', c1', c2', c3', hsane', hsub'⟩ := (HL'.out.later hR.out).at hy
                have HX := Lib.hid (HI.out x (List.mem_of_getElem? hx))
                have HSA := Lib.hid hsane
                have HSUB := Lib.hid hsub
                have HSA' := Lib.hid hsane'
                have HSUB' := Lib.hid hsub'
                have HEq := Lib.hid (eqbs_step hx hy)
                have HM : Hid (x.eqb y = false → eqbs l l' = false) := Lib.hid (fun e => by
                  cases hr : eqbs l l' with
                  | false => rfl
                  | true => rw [eqbs_mem hx hy hr] at e; exact e)
                have hb0 : (0 : Int) ≤ (j : Int) := by omega
                have hb1 : (j : Int) < (l'.length : Int) := by omega
                have od : Only (fun _ => False) wr wr.drew := Only.drew _ _
                have HSd := Lib.hid (HSUB.out.later od)
                have HSd' := Lib.hid (HSUB'.out.later od)
                have HRd := Lib.hid (hR.out.same od)
                have HBd1 := Lib.hid (hB1.out.later od)
                have HBd2 := Lib.hid (hB2.out.later od)
                clear hx hy hsane hsub hsane' hsub' od
                go_wp2_with fail
                go_still_tail 10, (by kernel_rfl)
                change wpList _ _ _ _ _ wr.drew
                generalize wr.drew = w3 at *
                go_wp2_with fail
                refine (HX.out y _ ro ro' rc rc' HSd.out HSA.out HSd'.out HSA'.out).mono ?_
                rintro e w2 ⟨rfl, ho2⟩
                have H2 : Hid (Only (fun _ => False) w w2) := Lib.hid (HRd.out.same ho2)
                have B1 := Lib.hid (HBd1.out.later ho2)
                have B2 := Lib.hid (HBd2.out.later ho2)
                clear ho2
                cases hxr : x.eqb y with
                | false =>
                  have HF := Lib.hid (HM.out hxr)
                  clear hxr
                  go_wp2_with fail
                  go_ret
                  exact ⟨retb (by rw [HE.out, HF.out]), H2.out⟩
                | true =>
                  have HT2 : Hid (eqbs (l.take (j + 1)) (l'.take (j + 1)) = true) := Lib.hid (by rw [HEq.out, hT.out, hxr]; rfl)
                  clear hxr
                  go_wp2_with fail
                  go_roundw
                  case rel => exact ⟨j + 1, by go_num, by omega, HT2, H2, B1, B2⟩
                  case measure => simp [intOf]; omega
              · obtain rfl : j = l'.length := by omega
                have HT2 : Hid (eqbs l l' = true) := Lib.hid (by have := hT.out; rw [List.take_of_length_le (by rw [HLEN.out]; omega), List.take_length] at this; exact this)
                go_wp2_with fail
                go_ret
                exact ⟨retb (by rw [HE.out, HT2.out]), hR.out⟩
          · have hne : ¬ (l.length : Int) = (l'.length : Int) := by omega
            have HE : Hid (((k == k') && ((n == n') && (decide (s.toList = s'.toList) && (decide (l.length = l'.length) && eqbs l l')))) = false) := Lib.hid (by simp [h4])
            subst h1 h2
            clear h4
            go_enter Try.func30, Try.ntmps30
            go_wp2_with fail
            go_ret
            exact ⟨retb (by rw [HE.out]), (Only.alloc _ _ _).same (Only.alloc _ _ _)⟩
        · have HE : Hid (((k == k') && ((n == n') && (decide (s.toList = s'.toList) && (decide (l.length = l'.length) && eqbs l l')))) = false) := Lib.hid (by simp [h3])
          subst h1 h2
          go_enter Try.func30, Try.ntmps30
          go_wp2_with fail
          go_ret
          exact ⟨retb (by rw [HE.out]), (Only.alloc _ _ _).same (Only.alloc _ _ _)⟩
      · have HE : Hid (((k == k') && ((n == n') && (decide (s.toList = s'.toList) && (decide (l.length = l'.length) && eqbs l l')))) = false) := Lib.hid (by simp [h2])
        subst h1
        go_enter Try.func30, Try.ntmps30
        go_wp2_with fail
        go_ret
        exact ⟨retb (by rw [HE.out]), (Only.alloc _ _ _).same (Only.alloc _ _ _)⟩
    · have HE : Hid (((k == k') && ((n == n') && (decide (s.toList = s'.toList) && (decide (l.length = l'.length) && eqbs l l')))) = false) := Lib.hid (by simp [h1])
      go_enter Try.func30, Try.ntmps30
      go_wp2_with fail
      go_ret
      exact ⟨retb (by rw [HE.out]), (Only.alloc _ _ _).same (Only.alloc _ _ _)⟩
end
end Go.Proofs.Ythfilpacmllhpab.terms
/- Terms: is one too large to be looked at. -/
namespace Go.Proofs.Ythfilpacmllhpab.terms
section
open Go.RowKit Go.Proofs.Ythfilpacmllhpab.own
mutual
def T.big : T → Int → Int → Bool × Int | .mk _ _ s l, d, c => if 6000 < c + 1 + (s.size : Int) / 16 ∨ 300 < d ∨ 100 < (l.length : Int) then (true, c + 1 + (s.size : Int) / 16) else bigs l (d + 1) (c + 1 + (s.size : Int) / 16)
def bigs : List T → Int → Int → Bool × Int | [], _, c => (false, c) | x :: r, d, c => cond (x.big d c).1 (x.big d c) (bigs r d (x.big d c).2)
end
theorem bigs_append (a b : List T) (d c : Int) : bigs (a ++ b) d c = cond (bigs a d c).1 (bigs a d c) (bigs b d (bigs a d c).2) := by
  induction a generalizing c with
  | nil => simp [bigs]
  | cons x r ih =>
    rw [List.cons_append, show bigs (x :: (r ++ b)) d c = cond (x.big d c).1 (x.big d c) (bigs (r ++ b) d (x.big d c).2) from rfl, show bigs (x :: r) d c = cond (x.big d c).1 (x.big d c) (bigs r d (x.big d c).2) from rfl]
    cases h : (x.big d c).1 with
    | true => simp only [cond_true, h]
    | false => simp only [cond_false, ih]
theorem bigs_step {l : List T} {i : Nat} {x : T} (h : l[i]? = some x) (d c : Int) (hf : (bigs (l.take i) d c).1 = false) : bigs (l.take (i + 1)) d c = x.big d (bigs (l.take i) d c).2 := by
  rw [take_snoc h, bigs_append, hf, cond_false, show bigs [x] d (bigs (l.take i) d c).2 = cond (x.big d (bigs (l.take i) d c).2).1 (x.big d (bigs (l.take i) d c).2) (false, (x.big d (bigs (l.take i) d c).2).2) from rfl]
  cases hx : (x.big d (bigs (l.take i) d c).2).1 with
  | true => rfl
  | false => rw [cond_false, ← hx]
theorem bigs_hit {l : List T} {i : Nat} {x : T} (h : l[i]? = some x) (d c : Int) (hf : (bigs (l.take i) d c).1 = false) (hx : (x.big d (bigs (l.take i) d c).2).1 = true) : bigs l d c = x.big d (bigs (l.take i) d c).2 := by
  have e : l.take (i + 1) ++ l.drop (i + 1) = l := List.take_append_drop _ _
  have hs := bigs_step h d c hf
  have ha := bigs_append (l.take (i + 1)) (l.drop (i + 1)) d c
  rw [e, hs, hx, cond_true] at ha
  exact ha
/-- What is not too large has few parts. -/
theorem big_few (t : T) : ∀ d c : Int, 0 ≤ c → (t.big d c).1 = false → c + t.size ≤ (t.big d c).2 ∧ (t.big d c).2 ≤ 6000 := by
  induction t using T.ind with
  | h k n s l ih =>
    intro d c hc h
    have hb : ∀ c : Int, 0 ≤ c → c ≤ 6000 → (bigs l (d + 1) c).1 = false → c + sizes l ≤ (bigs l (d + 1) c).2 ∧ (bigs l (d + 1) c).2 ≤ 6000 := by
      clear h hc
      induction l with
      | nil => intro c h0 h1 _; simp [bigs, sizes]; exact h1
      | cons x r ihr =>
        intro c h0 h1 h
        rw [show bigs (x :: r) (d + 1) c = cond (x.big (d + 1) c).1 (x.big (d + 1) c) (bigs r (d + 1) (x.big (d + 1) c).2) from rfl] at h ⊢
        cases hx : (x.big (d + 1) c).1 with
        | true => rw [hx, cond_true, hx] at h; cases h
        | false =>
          rw [hx, cond_false] at h
          rw [cond_false]
          have h2 := ih x (by simp) (d + 1) c h0 hx
          have h3 := ihr (fun y hy => ih y (by simp [hy])) _ (by omega) (by omega) h
          simp only [sizes]
          omega
    unfold T.big at h ⊢
    split at h
    · cases h
    · rename_i hn
      rw [if_neg hn]
      have : 0 ≤ (s.size : Int) / 16 := by omega
      have h3 := hb _ (by omega) (by omega) h
      show c + ((1 + sizes l : Nat) : Int) ≤ _ ∧ _
      omega
theorem bigs_few (l : List T) : ∀ d c : Int, 0 ≤ c → c ≤ 6000 → (bigs l d c).1 = false → c + sizes l ≤ (bigs l d c).2 ∧ (bigs l d c).2 ≤ 6000 := by
  induction l with
  | nil => intro d c h0 h1 _; simp [bigs, sizes]; exact h1
  | cons x r ihr =>
    intro d c h0 h1 h
    rw [show bigs (x :: r) d c = cond (x.big d c).1 (x.big d c) (bigs r d (x.big d c).2) from rfl] at h ⊢
    cases hx : (x.big d c).1 with
    | true => rw [hx, cond_true, hx] at h; cases h
    | false =>
      rw [hx, cond_false] at h
      rw [cond_false]
      have h2 := big_few x d c h0 hx
      have h3 := ihr d _ (by omega) (by omega) h
      simp only [sizes]
      omega
/-- The counter. -/
def Cnt (cb : Nat) (c : Int) (w : World) : Prop := w.heap[cb]? = some (.cells #[.int .i64 c] 3 (0, 0))
theorem Cnt.cell {cb : Nat} {c : Int} {w : World} (h : Cnt cb c w) : w.cell? ⟨cb, 0, none⟩ = some (.int .i64 c) ∧ w.frozen? ⟨cb, 0, none⟩ = false := by
  refine ⟨?_, free_of_blk h 0⟩
  rw [cell_of_blk h]; rfl
theorem Cnt.lt {cb : Nat} {c : Int} {w : World} (h : Cnt cb c w) : cb < w.heap.size := lt_of_block h
theorem Cnt.set {cb : Nat} {c : Int} {w : World} (h : Cnt cb c w) (x : Int) : Cnt cb x (w.setCell ⟨cb, 0, none⟩ (.int .i64 x)) ∧ Only (· = cb) w (w.setCell ⟨cb, 0, none⟩ (.int .i64 x)) :=
  ⟨by unfold Cnt; simpa using blk_set h 0 (.int .i64 x), Only.setCell (S := (· = cb)) _ (p := ⟨cb, 0, none⟩) rfl _⟩
theorem Cnt.only {cb : Nat} {c : Int} {w w' : World} (h : Cnt cb c w) {S : Nat → Prop} (ho : Only S w w') (hS : ¬ S cb) : Cnt cb c w' := by
  unfold Cnt at *
  rw [ho.block cb (lt_of_block h) hS]
  exact h
theorem BoxAt.only {b : Nat} {k n : Int} {s : ByteArray} {ao : Option Addr} {len cap : Nat} {w w' : World} {S : Nat → Prop} (h : BoxAt b k n s ao len cap w) (ho : Only S w w') (hS : ¬ S b) : BoxAt b k n s ao len cap w' := by
  unfold BoxAt at *
  rw [ho.block b (lt_of_block h) hS]
  exact h
set_option maxRecDepth 100000 in
set_option maxHeartbeats 2000000 in
theorem large_any (B cb : Nat) (hB : B ≤ cb) (t : T) : ∀ (w : World) (ao : Option Addr) (cap : Nat) (d c : Int), Row (· < B) w ao t.l → t.Sane → Cnt cb c w → 0 ≤ c → c ≤ 6000 → 0 ≤ d → d ≤ 301 → Calls Try.prog 69 #[tv t ao cap, .int .i64 d, .pointer (some ⟨cb, 0, none⟩)] w fun e w' => e = .returned (.bool (t.big d c).1) ∧ Cnt cb (t.big d c).2 w' ∧ Only (· = cb) w w' := by
  induction t using T.ind with
  | h k n s l ih =>
    intro w ao cap d c hl hs hc h0 h1 hd0 hd1
    have HL := Lib.hid hl
    have HI := Lib.hid ih
    have hlen := hs.l
    have hsz := hs.s
    unfold maxLen at hlen hsz
    simp only [T.l, T.s] at hlen hsz
    have HC := Lib.hid hc
    have hclt := hc.lt
    generalize hr : (T.mk k n s l).big d c = r
    have HR := Lib.hid hr
    show Calls Try.prog 69 #[.agg #[.int .i64 k, .int .i64 n, .string s, .slice ao l.length cap], .int .i64 d, .pointer (some ⟨cb, 0, none⟩)] w fun e w' => e = .returned (.bool r.1) ∧ Cnt cb r.2 w' ∧ Only (· = cb) w w'
    clear hl ih hs hc hr
    have hq0 : 0 ≤ (s.size : Int) / 16 := by omega
    have hq1 : (s.size : Int) / 16 ≤ 1152921504606846976 := by omega
    go_enter Try.func69, Try.ntmps69
    go_wp2_with fail
    have HB0 := Lib.hid (BoxAt.new w k n s ao l.length cap)
    have HO : Hid (Only (· = cb) w (w.alloc (.cells #[.int .i64 k, .int .i64 n, .string s, .slice ao l.length cap] 31))) := Lib.hid (Only.alloc _ _ _)
    have HC1 : Hid (Cnt cb c (w.alloc (.cells #[.int .i64 k, .int .i64 n, .string s, .slice ao l.length cap] 31))) := Lib.hid (HC.out.only (Only.alloc (fun _ => False) _ _) (fun e => e))
    have hbx : w.heap.size ≠ cb := by omega
    unfold boxW at HB0
    generalize hbxe : w.heap.size = bx at *
    generalize w.alloc (.cells #[.int .i64 k, .int .i64 n, .string s, .slice ao l.length cap] 31) = w1 at *
    have HC1d := Lib.hid (HC1.out.only (Only.drew (fun _ => False) w1) (fun e => e))
    have HB1d := Lib.hid (HB0.out.only (Only.drew (fun _ => False) w1) (fun e => e))
    have HO1d := Lib.hid (HO.out.same (Only.drew (· = cb) w1))
    have e0 := HC1.out.cell.1
    have e2 := HB0.out.cells.2.2.1
    have hbxc : bx ≠ cb := hbx
    have hw1 : IntKind.i64.wrap (c + 1) = c + 1 := IntWalk.i64_in _ (by omega)
    have hw2 : IntKind.i64.wrap ((s.size : Int) / 16) = (s.size : Int) / 16 := IntWalk.i64_in _ (by omega)
    have hw3 : IntKind.i64.wrap (c + 1 + (s.size : Int) / 16) = c + 1 + (s.size : Int) / 16 := IntWalk.i64_in _ (by omega)
    go_still_tail 11, (by kernel_rfl)
    change wpList _ _ _ _ _ w1.drew
    clear e0 e2 HC1 HB0 HO
    generalize w1.drew = w2 at *
    have z0 := HC1d.out.cell.2
    have e0 := HC1d.out.cell.1
    obtain ⟨c1, hc1⟩ : ∃ c1, c1 = c + 1 + (s.size : Int) / 16 := ⟨_, rfl⟩
    rw [← hc1]
    have HC1e := Lib.hid hc1
    have hc10 : 0 ≤ c1 := by omega
    have HS := Lib.hid (HC1d.out.set c1)
    clear hw1 hw2 hw3 hc1 hq0 hq1
    by_cases hbig : 6000 < c1 ∨ 300 < d ∨ 100 < (l.length : Int)
    · have HR2 : Hid (r = (true, c1)) := Lib.hid (by
        rw [← HR.out]
        unfold T.big
        rw [← HC1e.out, if_pos hbig])
      have d3 := HB1d.out.cells.2.2.2
      have hbx1 : ¬ bx = cb := hbx
      have hbx2 : ¬ cb = bx := fun e => hbx e.symm
      by_cases g1 : 6000 < c1
      · clear hbig
        go_wp2_with fail
        go_ret
        exact ⟨retb (by rw [HR2.out]), by rw [HR2.out]; exact HS.out.1, HO1d.out.same HS.out.2⟩
      · by_cases g2 : 300 < d
        · clear hbig
          go_wp2_with fail
          go_ret
          exact ⟨retb (by rw [HR2.out]), by rw [HR2.out]; exact HS.out.1, HO1d.out.same HS.out.2⟩
        · have g3 : 100 < (l.length : Int) := by omega
          clear hbig
          go_wp2_with fail
          go_ret
          exact ⟨retb (by rw [HR2.out]), by rw [HR2.out]; exact HS.out.1, HO1d.out.same HS.out.2⟩
    · have HR2 : Hid (r = bigs l (d + 1) c1) := Lib.hid (by
        rw [← HR.out]
        unfold T.big
        rw [← HC1e.out, if_neg hbig])
      have d3 := HB1d.out.cells.2.2.2
      have hbx1 : ¬ bx = cb := hbx
      have hbx2 : ¬ cb = bx := fun e => hbx e.symm
      have g1 : ¬ 6000 < c1 := by omega
      have g2 : ¬ 300 < d := by omega
      have g3 : ¬ 100 < (l.length : Int) := by omega
      clear hbig
      go_wp2_with fail
      have HC3 := Lib.hid HS.out.1
      have HB3 := Lib.hid (HB1d.out.only HS.out.2 hbx)
      have HO3 := Lib.hid (HO1d.out.same HS.out.2)
      clear d3 z0 e0
      generalize w2.setCell ⟨cb, 0, none⟩ (.int .i64 c1) = w3 at *
      go_loopw [7] (fun i wr => ∃ j : Nat, i = .int .i64 j ∧ j ≤ l.length ∧ Hid ((bigs (l.take j) (d + 1) c1).1 = false) ∧ Hid (Cnt cb (bigs (l.take j) (d + 1) c1).2 wr) ∧ Hid (Only (· = cb) w wr) ∧ Hid (BoxAt bx k n s ao l.length cap wr)) (fun i _ => l.length - (intOf i).toNat)
      case atStart => exact ⟨0, rfl, by omega, Lib.hid (by simp [bigs]), Lib.hid (by simpa [bigs] using HC3.out), HO3, HB3⟩
      case round =>
        obtain ⟨j, rfl, hj, hT, hC, hR, hB⟩ := hrel
        clear HO3 HB3 HC3
        have d3 := hB.out.cells.2.2.2
        by_cases hlt : j < l.length
        · obtain ⟨x, hx⟩ : ∃ x, l[j]? = some x := ⟨_, List.getElem?_eq_getElem hlt⟩
          obtain ⟨b, off, ro, rc, rfl, hb, q0, q1, q2, q3, hsane, hsub⟩ := (HL.out.only hR.out (fun k hk => by omega) (fun k hk e => by omega)).at hx
          have HX := Lib.hid (HI.out x (List.mem_of_getElem? hx))
          have HSA := Lib.hid hsane
          have HSUB := Lib.hid hsub
          have HEq := Lib.hid (bigs_step hx (d + 1) c1 hT.out)
          have HHit := Lib.hid (bigs_hit hx (d + 1) c1 hT.out)
          have HB6 : Hid (0 ≤ (bigs (l.take j) (d + 1) c1).2 ∧ (bigs (l.take j) (d + 1) c1).2 ≤ 6000) := Lib.hid (by have := bigs_few _ (d + 1) c1 hc10 (by omega) hT.out; omega)
          clear hx hsane hsub
          go_wp2_with fail
          refine (HX.out _ ro rc _ _ HSUB.out HSA.out hC.out HB6.out.1 HB6.out.2 (by omega) (by omega)).mono ?_
          rintro e w4 ⟨rfl, hc4, ho4⟩
          have H4 : Hid (Only (· = cb) w w4) := Lib.hid (hR.out.same ho4)
          have B4 := Lib.hid (hB.out.only ho4 hbx)
          have C4 := Lib.hid hc4
          clear ho4 hc4
          cases hxr : (x.big (d + 1) (bigs (l.take j) (d + 1) c1).2).1 with
          | true =>
            have HF := Lib.hid (HHit.out hxr)
            have HXR := Lib.hid hxr
            clear hxr
            go_wp2_with fail
            go_ret
            exact ⟨retb (by rw [HR2.out, HF.out, HXR.out]), by rw [HR2.out, HF.out]; exact C4.out, H4.out⟩
          | false =>
            have HT2 : Hid ((bigs (l.take (j + 1)) (d + 1) c1).1 = false) := Lib.hid (by rw [HEq.out]; exact hxr)
            have C5 : Hid (Cnt cb (bigs (l.take (j + 1)) (d + 1) c1).2 w4) := Lib.hid (by rw [HEq.out]; exact C4.out)
            clear hxr
            go_wp2_with fail
            go_roundw
            case rel => exact ⟨j + 1, by go_num, by omega, HT2, C5, H4, B4⟩
            case measure => simp [intOf]; omega
        · obtain rfl : j = l.length := by omega
          have HT2 : Hid (bigs l (d + 1) c1 = (false, (bigs (l.take l.length) (d + 1) c1).2)) := Lib.hid (by have := hT.out; rw [List.take_length] at *; rw [← this])
          go_wp2_with fail
          go_ret
          exact ⟨retb (by rw [HR2.out, HT2.out]), by rw [HR2.out, HT2.out]; exact hC.out, hR.out⟩
/-- Is a term too large to be looked at? -/
def T.Big (t : T) : Bool := (t.big 0 0).1
theorem T.few {t : T} (h : t.Big = false) : t.size ≤ 6000 := by
  have := big_few t 0 0 (Int.le_refl _) h
  omega
set_option maxRecDepth 100000 in
set_option maxHeartbeats 1000000 in
theorem rlarge_any (t : T) (w : World) (ao : Option Addr) (cap : Nat) (hl : Lies w ao t.l) (hs : t.Sane) : Calls Try.prog 53 #[tv t ao cap] w fun e w' => e = .returned (.bool t.Big) ∧ Only (fun _ => False) w w' := by
  have HL := Lib.hid hl
  have HS := Lib.hid hs
  obtain ⟨k, n, s, l⟩ := t
  show Calls Try.prog 53 #[.agg #[.int .i64 k, .int .i64 n, .string s, .slice ao l.length cap]] w fun e w' => e = .returned (.bool (T.mk k n s l).Big) ∧ Only (fun _ => False) w w'
  generalize hr : (T.mk k n s l).Big = r
  have HR := Lib.hid hr
  clear hl hs hr
  go_enter Try.func53, Try.ntmps53
  go_wp2_with fail
  have ho : Only (fun _ => False) w ((w.alloc (.cells #[.int .i64 k, .int .i64 n, .string s, .slice ao l.length cap] 31)).alloc (.cells #[.int .i64 0] 3)) := (Only.alloc _ _ _).same (Only.alloc _ _ _)
  have hc : Cnt (w.heap.size + 1) 0 ((w.alloc (.cells #[.int .i64 k, .int .i64 n, .string s, .slice ao l.length cap] 31)).alloc (.cells #[.int .i64 0] 3)) := by
    have := heap_alloc_new (w.alloc (.cells #[.int .i64 k, .int .i64 n, .string s, .slice ao l.length cap] 31)) (.cells #[.int .i64 0] 3)
    unfold Cnt
    simpa using this
  have hrow := HL.out.only ho (fun _ e => e) (fun _ _ e => e)
  refine (large_any w.heap.size (w.heap.size + 1) (by omega) (T.mk k n s l) _ ao cap 0 0 hrow HS.out hc (by omega) (by omega) (by omega) (by omega)).mono ?_
  rintro e w2 ⟨rfl, _, ho2⟩
  have H2 : Hid (Only (fun _ => False) w w2) := Lib.hid (ho.trans ho2 (fun k hk e => by omega))
  clear ho ho2 hc hrow
  go_wp2_with fail
  go_ret
  exact ⟨retb HR.out, H2.out⟩
end
end Go.Proofs.Ythfilpacmllhpab.terms
/- Terms: the first look; what is wrong with one. -/
namespace Go.Proofs.Ythfilpacmllhpab.terms
section
open Go.RowKit Go.Proofs.Ythfilpacmllhpab.own
mutual
def T.lookF : T → Int → Int → Int × Int | .mk k n s l, d, c => cond (T.mk k n s l).part (if 200 < d then (61, c) else (if c - 1 < 0 then (62, c - 1) else looks l (d + 1) (c - 1))) (60, c)
def looks : List T → Int → Int → Int × Int | [], _, c => (0, c) | x :: r, d, c => cond ((x.lookF d c).1 == 0) (looks r d (x.lookF d c).2) (x.lookF d c)
end
theorem looks_cons (x : T) (r : List T) (d c : Int) : looks (x :: r) d c = cond ((x.lookF d c).1 == 0) (looks r d (x.lookF d c).2) (x.lookF d c) := rfl
theorem lookF_mk (k n : Int) (s : ByteArray) (l : List T) (d c : Int) : (T.mk k n s l).lookF d c = cond (T.mk k n s l).part (if 200 < d then (61, c) else (if c - 1 < 0 then (62, c - 1) else looks l (d + 1) (c - 1))) (60, c) := rfl
theorem looks_append (a b : List T) (d c : Int) : looks (a ++ b) d c = cond ((looks a d c).1 == 0) (looks b d (looks a d c).2) (looks a d c) := by
  induction a generalizing c with
  | nil => simp [looks]
  | cons x r ih =>
    rw [List.cons_append, looks_cons, looks_cons]
    cases h : (x.lookF d c).1 == 0 with
    | true => simp only [cond_true, ih]
    | false => simp only [cond_false, h]
theorem looks_step {l : List T} {i : Nat} {x : T} (h : l[i]? = some x) (d c : Int) (hf : (looks (l.take i) d c).1 = 0) : looks (l.take (i + 1)) d c = x.lookF d (looks (l.take i) d c).2 := by
  rw [take_snoc h, looks_append, hf, looks_cons]
  simp only [beq_self_eq_true, cond_true]
  cases hx : (x.lookF d (looks (l.take i) d c).2).1 == 0 with
  | true =>
    simp only [cond_true, looks]
    have := beq_iff_eq.1 hx
    rw [← this]
  | false => rfl
theorem looks_hit {l : List T} {i : Nat} {x : T} (h : l[i]? = some x) (d c : Int) (hf : (looks (l.take i) d c).1 = 0) (hx : (x.lookF d (looks (l.take i) d c).2).1 ≠ 0) : looks l d c = x.lookF d (looks (l.take i) d c).2 := by
  have e : l.take (i + 1) ++ l.drop (i + 1) = l := List.take_append_drop _ _
  have hs := looks_step h d c hf
  have ha := looks_append (l.take (i + 1)) (l.drop (i + 1)) d c
  rw [e, hs] at ha
  rw [ha]
  have : ((x.lookF d (looks (l.take i) d c).2).1 == 0) = false := by simpa using hx
  rw [this, cond_false]
/-- What the first look tells. -/
structure LookIs (right : Bool) (depth size : Int) (d c : Int) (r : Int × Int) : Prop where
  ok : r.1 = 0 → right = true ∧ depth + d ≤ 201 ∧ size ≤ c ∧ r.2 = c - size
  of : right = true → depth + d ≤ 201 → size ≤ c → r.1 = 0
  bad : r.1 = 60 → right = false
  one : r.1 = 0 ∨ r.1 = 60 ∨ r.1 = 61 ∨ r.1 = 62
theorem look_is (t : T) : ∀ d c : Int, 0 ≤ c → LookIs t.right t.depth t.size d c (t.lookF d c) := by
  induction t using T.ind with
  | h k n s l ih =>
    intro d c hc
    have hb : ∀ d c : Int, 0 ≤ c → d ≤ 201 → LookIs (rights l) (depths l) (sizes l) d c (looks l d c) := by
      clear hc d c
      intro d c hc hd
      clear k n s
      induction l generalizing c with
      | nil => exact ⟨fun _ => ⟨rfl, by simp [depths]; omega, by simp [sizes]; omega, by simp [looks, sizes]⟩, fun _ _ _ => rfl, fun e => by simp [looks] at e, .inl rfl⟩
      | cons x r ihr =>
        have hx := ih x (by simp) d c hc
        rw [looks_cons]
        cases h0 : (x.lookF d c).1 == 0 with
        | true =>
          have h1 := beq_iff_eq.1 h0
          obtain ⟨a1, a2, a3, a4⟩ := hx.ok h1
          have hr := ihr (fun y hy => ih y (by simp [hy])) (x.lookF d c).2 (by omega)
          rw [cond_true]
          refine ⟨fun e => ?_, fun e1 e2 e3 => ?_, fun e => ?_, hr.one⟩
          · obtain ⟨b1, b2, b3, b4⟩ := hr.ok e
            refine ⟨by simp [rights, a1, b1], by simp only [depths]; omega, by simp only [sizes]; omega, by simp only [sizes]; omega⟩
          · simp only [rights, Bool.and_eq_true] at e1
            simp only [depths] at e2
            simp only [sizes] at e3
            exact hr.of e1.2 (by omega) (by omega)
          · simp only [rights, hr.bad e, Bool.and_false]
        | false =>
          have h1 : (x.lookF d c).1 ≠ 0 := by simpa using h0
          rw [cond_false]
          refine ⟨fun e => absurd e h1, fun e1 e2 e3 => ?_, fun e => ?_, hx.one⟩
          · simp only [rights, Bool.and_eq_true] at e1
            simp only [depths] at e2
            simp only [sizes] at e3
            exact hx.of e1.1 (by omega) (by omega)
          · simp only [rights, hx.bad e, Bool.false_and]
    rw [lookF_mk]
    show LookIs ((T.mk k n s l).part && rights l) ((depths l + 1 : Nat) : Int) ((1 + sizes l : Nat) : Int) d c _
    cases hp : (T.mk k n s l).part with
    | false =>
      rw [cond_false, Bool.false_and]
      exact ⟨fun e => by simp at e, fun e => (by cases e), fun _ => rfl, .inr (.inl rfl)⟩
    | true =>
      rw [cond_true, Bool.true_and]
      split
      · exact ⟨fun e => by simp at e, fun _ e => by omega, fun e => by simp at e, .inr (.inr (.inl rfl))⟩
      · split
        · exact ⟨fun e => by simp at e, fun _ _ e => by omega, fun e => by simp at e, .inr (.inr (.inr rfl))⟩
        · have hr := hb (d + 1) (c - 1) (by omega) (by omega)
          refine ⟨fun e => ?_, fun e1 e2 e3 => hr.of e1 (by omega) (by omega), hr.bad, hr.one⟩
          obtain ⟨b1, b2, b3, b4⟩ := hr.ok e
          exact ⟨b1, by omega, by omega, by omega⟩
theorem looks_is (l : List T) : ∀ d c : Int, 0 ≤ c → d ≤ 201 → LookIs (rights l) (depths l) (sizes l) d c (looks l d c) := by
  intro d c hc hd
  induction l generalizing c with
  | nil => exact ⟨fun _ => ⟨rfl, by simp [depths]; omega, by simp [sizes]; omega, by simp [looks, sizes]⟩, fun _ _ _ => rfl, fun e => by simp [looks] at e, .inl rfl⟩
  | cons x r ihr =>
    have hx := look_is x d c hc
    rw [looks_cons]
    cases h0 : (x.lookF d c).1 == 0 with
    | true =>
      have h1 := beq_iff_eq.1 h0
      obtain ⟨a1, a2, a3, a4⟩ := hx.ok h1
      have hr := ihr (x.lookF d c).2 (by omega)
      rw [cond_true]
      refine ⟨fun e => ?_, fun e1 e2 e3 => ?_, fun e => ?_, hr.one⟩
      · obtain ⟨b1, b2, b3, b4⟩ := hr.ok e
        refine ⟨by simp [rights, a1, b1], by simp only [depths]; omega, by simp only [sizes]; omega, by simp only [sizes]; omega⟩
      · simp only [rights, Bool.and_eq_true] at e1
        simp only [depths] at e2
        simp only [sizes] at e3
        exact hr.of e1.2 (by omega) (by omega)
      · simp only [rights, hr.bad e, Bool.and_false]
    | false =>
      have h1 : (x.lookF d c).1 ≠ 0 := by simpa using h0
      rw [cond_false]
      refine ⟨fun e => absurd e h1, fun e1 e2 e3 => ?_, fun e => ?_, hx.one⟩
      · simp only [rights, Bool.and_eq_true] at e1
        simp only [depths] at e2
        simp only [sizes] at e3
        exact hx.of e1.1 (by omega) (by omega)
      · simp only [rights, hx.bad e, Bool.false_and]
end
end Go.Proofs.Ythfilpacmllhpab.terms
/- Terms that may be: Check, may, Size, Depth. -/
namespace Go.Proofs.Ythfilpacmllhpab.terms
section
open Go.RowKit Go.Proofs.Ythfilpacmllhpab.own
/-- May the term be? -/
structure T.Ok (t : T) : Prop where
  right : t.right = true
  depth : t.depth ≤ 200
  size : t.size ≤ 4096
theorem Only.cut {S : Nat → Prop} {a b c : World} (h : Only (fun _ => False) a b) (h' : Only S b c) (hS : ∀ k, S k → a.heap.size ≤ k) : Only (fun _ => False) a c :=
  h.trans h' (fun k hk e => by have := hS k e; omega)
theorem T.Ok.look {t : T} (h : t.Ok) : (t.lookF 1 4096).1 = 0 := (look_is t 1 4096 (by omega)).of h.right (by have := h.depth; omega) (by have := h.size; omega)
/-- A term in a list of its own. -/
theorem Row.one {w : World} {t : T} {ao : Option Addr} {cap : Nat} (hl : Lies w ao t.l) (hs : t.Sane) (w1 : World) (ho : Only (fun _ => False) w w1) (b : Nat) (hb : w1.heap[b]? = some (.cells #[.int .i64 t.k, .int .i64 t.n, .string t.s, .slice ao t.l.length cap] 31 (0, 0))) : Lies w1 (some ⟨b, 0, none⟩) [t] := by
  have hlt := lt_of_block hb
  refine .mk _ _ (fun _ => ao) (fun _ => cap) (fun i x hx => ?_) (fun i x hx => ?_)
  · cases i with
    | zero =>
      simp only [List.getElem?_cons_zero, Option.some.injEq] at hx
      subst hx
      refine ⟨b, 0, rfl, hlt, ?_, ?_, ?_, ?_, hs, free_of_blk hb _⟩ <;> (rw [cell_of_blk hb]; rfl)
    | succ i => simp at hx
  · cases i with
    | zero =>
      simp only [List.getElem?_cons_zero, Option.some.injEq] at hx
      subst hx
      exact hl.later ho
    | succ i => simp at hx
end
end Go.Proofs.Ythfilpacmllhpab.terms
/- Terms: a list of terms under way; what is put in the places of variables. -/
namespace Go.Proofs.Ythfilpacmllhpab.terms
section
open Go.RowKit Go.Proofs.Ythfilpacmllhpab.own
/-- A term, and where its arguments lie. -/
structure It where
  t : T
  ao : Option Addr
  cap : Nat
instance : Inhabited It := ⟨⟨.mk 0 0 ⟨#[]⟩ [], none, 0⟩⟩
def encIt (x : It) : List Value := [.int .i64 x.t.k, .int .i64 x.t.n, .string x.t.s, .slice x.ao x.t.l.length x.cap]
def It.val (x : It) : Value := tv x.t x.ao x.cap
theorem liesIt : Go.Proofs.Ythfilpacmllhpab.own.Lies encIt 4 := ⟨fun _ => rfl, by
  intro x u hu
  simp [encIt] at hu
  rcases hu with rfl | rfl | rfl | rfl <;> rfl, by omega⟩
theorem infoT : (Try.prog.info? 31).map (fun i => (i.zero, i.size, i.bytes)) = some (some (.agg #[.int .i64 0, .int .i64 0, .string ⟨#[]⟩, .slice none 0 0]), 4, 56) := by kernel_rfl
abbrev ItsP (B : Nat) (ao : Option Addr) (cap : Nat) (xs : List It) (w : World) : Prop := RowOf encIt 4 31 B ao cap xs w
theorem made_its (n : Nat) : (madeCells (Value.agg #[.int .i64 0, .int .i64 0, .string ⟨#[]⟩, .slice none 0 0]).cells (n * 4)).toList = (List.replicate n (default : It)).flatMap encIt := by
  have hlen : ((List.replicate n (default : It)).flatMap encIt).length = n * 4 := by rw [flat_len liesIt, List.length_replicate]
  apply List.ext_getElem?
  intro i
  by_cases hi : i < n * 4
  · have hd : (List.replicate n (default : It))[i / 4]? = some default := by
      rw [List.getElem?_replicate, if_pos (by omega)]
    have hf := flat_get liesIt (List.replicate n (default : It)) (i / 4) (i % 4) default hd (by omega)
    rw [show i / 4 * 4 + i % 4 = i by omega] at hf
    rw [hf]
    unfold madeCells
    rw [Array.getElem?_toList, Array.getElem?_map, Array.getElem?_range, if_pos hi]
    have : i % 4 = 0 ∨ i % 4 = 1 ∨ i % 4 = 2 ∨ i % 4 = 3 := by omega
    rcases this with e | e | e | e <;> simp [Value.cells, e, encIt, default, T.k, T.n, T.s, T.l]
  · rw [List.getElem?_eq_none (by rw [Array.length_toList, size_madeCells]; omega), List.getElem?_eq_none (by rw [hlen]; omega)]
/-- A row of items is a list of terms. -/
theorem ItsP.row {P : Nat → Prop} {B g cap : Nat} {xs : List It} {w : World} (h : ItsP B (some ⟨g, 0, none⟩) cap xs w) (hg : P g) (hs : ∀ (i : Nat) (x : It), xs[i]? = some x → x.t.Sane ∧ Row P w x.ao x.t.l) : Row P w (some ⟨g, 0, none⟩) (xs.map (·.t)) := by
  refine .mk _ _ (fun i => (xs.getD i default).ao) (fun i => (xs.getD i default).cap) (fun i t ht => ?_) (fun i t ht => ?_)
  · rw [List.getElem?_map] at ht
    cases hx : xs[i]? with
    | none => rw [hx] at ht; cases ht
    | some x =>
      rw [hx] at ht
      simp only [Option.map_some, Option.some.injEq] at ht
      subst ht
      obtain ⟨g', hg', _, hc⟩ := h.at liesIt i x hx
      cases hg'
      have e : xs.getD i default = x := by simp [List.getD, hx]
      have c0 := (hc 0 (by omega)).1
      have c1 := (hc 1 (by omega)).1
      have c2 := (hc 2 (by omega)).1
      have c3 := (hc 3 (by omega)).1
      simp only [encIt, List.getElem?_cons_zero, List.getElem?_cons_succ, Nat.add_zero] at c0 c1 c2 c3
      simp only [e, Nat.zero_add]
      exact ⟨g, 0, rfl, hg, by simpa using c0, by simpa using c1, by simpa using c2, by simpa using c3, (hs i x hx).1, by simpa using (hc 0 (by omega)).2⟩
  · rw [List.getElem?_map] at ht
    cases hx : xs[i]? with
    | none => rw [hx] at ht; cases ht
    | some x =>
      rw [hx] at ht
      simp only [Option.map_some, Option.some.injEq] at ht
      subst ht
      have e : xs.getD i default = x := by simp [List.getD, hx]
      simp only [e]
      exact (hs i x hx).2
/-- An item is stored. -/
abbrev storedT (w : World) (g j : Nat) (y : It) : World := (((w.setCell ⟨g, j * 4, none⟩ (.int .i64 y.t.k)).setCell ⟨g, j * 4 + 1, none⟩ (.int .i64 y.t.n)).setCell ⟨g, j * 4 + 2, none⟩ (.string y.t.s)).setCell ⟨g, j * 4 + 3, none⟩ (.slice y.ao y.t.l.length y.cap)
/-- The items' cells, one for one. -/
structure Q4 where
  a : Value
  b : Value
  c : Value
  d : Value
  one : a.oneCell' = true ∧ b.oneCell' = true ∧ c.oneCell' = true ∧ d.oneCell' = true
def encQ (x : Q4) : List Value := [x.a, x.b, x.c, x.d]
theorem liesQ : Go.Proofs.Ythfilpacmllhpab.own.Lies encQ 4 := ⟨fun _ => rfl, by
  intro x u hu
  simp [encQ] at hu
  rcases hu with rfl | rfl | rfl | rfl
  · exact x.one.1
  · exact x.one.2.1
  · exact x.one.2.2.1
  · exact x.one.2.2.2, by omega⟩
def It.q (x : It) : Q4 := ⟨.int .i64 x.t.k, .int .i64 x.t.n, .string x.t.s, .slice x.ao x.t.l.length x.cap, rfl, rfl, rfl, rfl⟩
theorem its_q {B cap : Nat} {ao : Option Addr} {xs : List It} {w : World} : ItsP B ao cap xs w ↔ RowOf encQ 4 31 B ao cap (xs.map It.q) w := by
  unfold ItsP RowOf
  rw [List.length_map, List.flatMap_map]
  rfl
theorem item_stored {B g cap : Nat} {xs : List It} {w : World} (h : ItsP B (some ⟨g, 0, none⟩) cap xs w) {j : Nat} (hj : j < xs.length) (y : It) : ItsP B (some ⟨g, 0, none⟩) cap (xs.set j y) (storedT w g j y) ∧ Only (· = g) w (storedT w g j y) := by
  obtain ⟨x, hx⟩ : ∃ x, xs[j]? = some x := ⟨_, List.getElem?_eq_getElem hj⟩
  have hq := its_q.1 h
  have hjq : j < (xs.map It.q).length := by rw [List.length_map]; exact hj
  have hxq : (xs.map It.q)[j]? = some x.q := by rw [List.getElem?_map, hx]; rfl
  have gs : ∀ (l : List Q4) (v : Q4), j < l.length → (l.set j v)[j]? = some v := fun l v hl => by rw [List.getElem?_set, if_pos rfl, if_pos hl]
  obtain ⟨r1, o1⟩ := hq.stored liesQ j 0 x.q ⟨.int .i64 y.t.k, x.q.b, x.q.c, x.q.d, rfl, rfl, rfl, rfl⟩ (.int .i64 y.t.k) hxq (by omega) rfl
  obtain ⟨r2, o2⟩ := r1.stored liesQ j 1 _ ⟨.int .i64 y.t.k, .int .i64 y.t.n, x.q.c, x.q.d, rfl, rfl, rfl, rfl⟩ (.int .i64 y.t.n) (gs _ _ hjq) (by omega) rfl
  obtain ⟨r3, o3⟩ := r2.stored liesQ j 2 _ ⟨.int .i64 y.t.k, .int .i64 y.t.n, .string y.t.s, x.q.d, rfl, rfl, rfl, rfl⟩ (.string y.t.s) (gs _ _ (by rw [List.length_set]; exact hjq)) (by omega) rfl
  obtain ⟨r4, o4⟩ := r3.stored liesQ j 3 _ y.q (.slice y.ao y.t.l.length y.cap) (gs _ _ (by rw [List.length_set, List.length_set]; exact hjq)) (by omega) rfl
  simp only [List.set_set] at r4
  refine ⟨its_q.2 ?_, ((o1.same o2).same o3).same o4⟩
  rw [List.map_set]
  exact r4
end
end Go.Proofs.Ythfilpacmllhpab.terms
