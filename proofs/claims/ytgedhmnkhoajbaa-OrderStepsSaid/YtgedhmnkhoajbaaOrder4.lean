/- Order: rank, the comparison of places, the stable sort of few, sorted. -/
import Derived.Test.YtgedhmnkhoajbaaOrder3
namespace Go.Proofs.Ytgedhmnkhoajbaa.orders
open Go.RowKit Go.Proofs.Ytgedhmnkhoajbaa.own Go.Maps Go.Proofs.Ytgedhmnkhoajbaa.terms
theorem infoN : (Try.prog.info? 3).map (fun i => (i.zero, i.size, i.bytes)) = some (some (.int .i64 0), 1, 8) := by kernel_rfl
theorem infoN_parts : ∃ i, Try.prog.info? 3 = some i ∧ i.zero = some (.int .i64 0) ∧ i.size = 1 ∧ i.bytes = 8 := by
  have := infoN
  cases hi : Try.prog.info? 3 with
  | none => rw [hi] at this; cases this
  | some i => rw [hi] at this; simp at this; exact ⟨i, rfl, this.1, this.2.1, this.2.2⟩
theorem flatN (xs : List Int) : xs.flatMap encN = xs.map (Value.int .i64) := by
  induction xs with
  | nil => rfl
  | cons x r ih => simp [encN, ih]
theorem madeN (n : Nat) : (madeCells (Value.int .i64 0).cells (n * 1)).toList = (List.replicate n (0 : Int)).map (Value.int .i64) := by
  apply List.ext_getElem
  · simp [madeCells]
  · intro i h1 h2
    simp [madeCells, Value.cells, Nat.mod_one]
theorem wp_makeN (w : World) {ops : Array Oper} {rest : List Oper} {o : Oper} {a : Act} {Q : Exit → Act → World → Prop}
    (hg : o.guard = none) (l c : Operand) (hop : o.op = Op.makeSlice 49 l c) (B : Nat)
    (kl kc : IntKind) (L C : Int) (n : Nat) (hl : a.eval l = .int kl L) (hc : a.eval c = .int kc C) (hL : L = (n : Int)) (hC : C = (n : Int)) (hn : n ≤ 4194304) (hB : B ≤ w.heap.size)
    (hK : ∀ w', Ints B (some ⟨w.heap.size, 0, none⟩) n (List.replicate n 0) w' → Only (fun _ => False) w w' → wpList Try.prog ops Q rest (a.put o.dst (.slice (some ⟨w.heap.size, 0, none⟩) n n)) w') :
    wpList Try.prog ops Q (o :: rest) a w := by
  obtain ⟨i0, hi, hz0, hz1, hz2⟩ := infoN_parts
  refine wpList_make_full w hg l c 49 hop B 3 i0 (.int .i64 0) 1 Try.underlying49 hi hz0 hz1 kl kc L C n hl hc hL hC (by rw [hz2]; omega) (by unfold maxLen; omega) hB ?_
  intro w' hown hgrow
  refine hK w' ?_ ((Only.grown hgrow).mono (fun k _ e => by cases e))
  rw [madeN] at hown
  unfold Ints RowOf
  rw [flatN]
  simpa using hown
set_option maxRecDepth 100000 in
set_option maxHeartbeats 1000000 in
theorem rank_any (t u : T) (w : World) (ao bo : Option Addr) (cap bcap : Nat) (hl : Lies w ao t.l) (hs : t.Sane) (hl' : Lies w bo u.l) (hs' : u.Sane) : Calls Try.prog 35 #[tv t ao cap, tv u bo bcap] w fun e w' => e = .returned (.int .i64 (meetF t u).1) ∧ Only (fun _ => False) w w' := by
  have HT0 := Lib.hid (Two.new (cap := cap) (bcap := bcap) hl hl')
  have HM : Hid (∀ W, Only (fun _ => False) w W → Calls Try.prog 28 #[tv t ao cap, tv u bo bcap] W fun e w' => e = .returned (.tuple #[.int .i64 (meetF t u).1, .bool (meetF t u).2]) ∧ Only (fun _ => False) W w') := Lib.hid (fun W ho => meet_any t u W ao bo cap bcap (hl.later ho) hs (hl'.later ho) hs')
  obtain ⟨c0, c1, c2, c3⟩ := HT0.out.t.q.cells
  obtain ⟨d0, d1, d2, d3⟩ := HT0.out.u.q.cells
  clear hl hs hl' hs'
  go_enter Try.func35, Try.ntmps35
  go_wp2_with fail
  refine (HM.out _ HT0.out.o).mono ?_
  rintro e w1 ⟨rfl, ho1⟩
  have HO := Lib.hid (HT0.out.o.same ho1)
  clear ho1
  go_wp2_with fail
  go_ret
  exact ⟨rfl, HO.out⟩
/-- What the comparison of two places tells. -/
def cfL (l : List T) (i j : Int) : Int := (meetF (l.getD i.toNat default) (l.getD j.toNat default)).1
set_option maxRecDepth 100000 in
set_option maxHeartbeats 2000000 in
theorem cmps_l (l : List T) (lo : Option Addr) (lc bx : Nat) (w0 : World) (hl : Lies w0 lo l) (hb : w0.heap[bx]? = some (.cells #[.slice lo l.length lc] 22 (0, 0))) : Cmps 45 #[.pointer (some ⟨bx, 0, none⟩)] l.length (cfL l) w0 := by
  intro W i j ho hi hj
  obtain ⟨p, rfl⟩ : ∃ p : Nat, i = (p : Int) := ⟨i.toNat, by omega⟩
  obtain ⟨q, rfl⟩ : ∃ q : Nat, j = (q : Int) := ⟨j.toNat, by omega⟩
  obtain ⟨x, hx⟩ : ∃ x, l[p]? = some x := ⟨_, List.getElem?_eq_getElem (by omega)⟩
  obtain ⟨y, hy⟩ : ∃ y, l[q]? = some y := ⟨_, List.getElem?_eq_getElem (by omega)⟩
  have hcf : cfL l p q = (meetF x y).1 := by
    unfold cfL
    rw [Int.toNat_natCast, Int.toNat_natCast, List.getD_eq_getElem?_getD, List.getD_eq_getElem?_getD, hx, hy]
    rfl
  rw [hcf]
  have hlW := hl.later ho
  obtain ⟨b, off, xo, xc, rfl, hbl, t0, t1, t2, t3, hxs, hxl⟩ := hlW.at hx
  obtain ⟨b', off', yo, yc, he, hbl', s0, s1, s2, s3, hys, hyl⟩ := hlW.at hy
  cases he
  have HX := Lib.hid (And.intro hxs hxl)
  have HY := Lib.hid (And.intro hys hyl)
  have hbW := blk_later hb ho
  have hj0 : (0 : Int) ≤ (p : Int) := by omega
  have hj1 : (0 : Int) ≤ (q : Int) := by omega
  have hi1 := hi.2
  have hi2 := hj.2
  have HK : Hid (∀ w', Only (fun _ => False) W w' → w'.cell? ⟨bx, 0, none⟩ = some (.slice (some ⟨b, off, none⟩) l.length lc) ∧ w'.cell? ⟨b, off + p * 4, none⟩ = some (.int .i64 x.k) ∧ w'.cell? ⟨b, off + p * 4 + 1, none⟩ = some (.int .i64 x.n) ∧ w'.cell? ⟨b, off + p * 4 + 2, none⟩ = some (.string x.s) ∧ w'.cell? ⟨b, off + p * 4 + 3, none⟩ = some (.slice xo x.l.length xc) ∧ w'.cell? ⟨b, off + q * 4, none⟩ = some (.int .i64 y.k) ∧ w'.cell? ⟨b, off + q * 4 + 1, none⟩ = some (.int .i64 y.n) ∧ w'.cell? ⟨b, off + q * 4 + 2, none⟩ = some (.string y.s) ∧ w'.cell? ⟨b, off + q * 4 + 3, none⟩ = some (.slice yo y.l.length yc)) := Lib.hid (fun w' ho2 => by
    have hc := cell_of_blk (blk_later hbW ho2) 0
    simp only [List.getElem?_toArray, List.getElem?_cons_zero, List.getElem?_cons_succ] at hc
    exact ⟨hc, (ho2.cell (p := ⟨b, off + p * 4, none⟩) hbl (fun e => e)).trans t0, (ho2.cell (p := ⟨b, off + p * 4 + 1, none⟩) hbl (fun e => e)).trans t1, (ho2.cell (p := ⟨b, off + p * 4 + 2, none⟩) hbl (fun e => e)).trans t2, (ho2.cell (p := ⟨b, off + p * 4 + 3, none⟩) hbl (fun e => e)).trans t3, (ho2.cell (p := ⟨b, off + q * 4, none⟩) hbl (fun e => e)).trans s0, (ho2.cell (p := ⟨b, off + q * 4 + 1, none⟩) hbl (fun e => e)).trans s1, (ho2.cell (p := ⟨b, off + q * 4 + 2, none⟩) hbl (fun e => e)).trans s2, (ho2.cell (p := ⟨b, off + q * 4 + 3, none⟩) hbl (fun e => e)).trans s3⟩)
  have HA : Hid (Only (fun _ => False) W W.drew) := Lib.hid (Only.drew _ _)
  clear hlW hx hy hxs hxl hys hyl t0 t1 t2 t3 s0 s1 s2 s3 hcf hl hb hbW
  go_enter Try.func45, Try.ntmps45
  go_wp2_with fail
  go_region_held3 (fun w' => w'.cell? ⟨bx, 0, none⟩ = some (.slice (some ⟨b, off, none⟩) l.length lc) ∧ w'.cell? ⟨b, off + p * 4, none⟩ = some (.int .i64 x.k) ∧ w'.cell? ⟨b, off + p * 4 + 1, none⟩ = some (.int .i64 x.n) ∧ w'.cell? ⟨b, off + p * 4 + 2, none⟩ = some (.string x.s) ∧ w'.cell? ⟨b, off + p * 4 + 3, none⟩ = some (.slice xo x.l.length xc) ∧ w'.cell? ⟨b, off + q * 4, none⟩ = some (.int .i64 y.k) ∧ w'.cell? ⟨b, off + q * 4 + 1, none⟩ = some (.int .i64 y.n) ∧ w'.cell? ⟨b, off + q * 4 + 2, none⟩ = some (.string y.s) ∧ w'.cell? ⟨b, off + q * 4 + 3, none⟩ = some (.slice yo y.l.length yc)) (first | exact HK.out _ HA.out | go_keep) (first
    | (go_at_call 35; refine (rank_any x y _ xo yo xc yc (HX.out.2.later HA.out) HX.out.1 (HY.out.2.later HA.out) HY.out.1).mono ?_; rintro e wx ⟨rfl, ho⟩; have HA := Lib.hid (HA.out.same ho); clear ho))
  go_wp2_with fail
  go_ret
  exact ⟨rfl, HA.out⟩
set_option maxRecDepth 100000 in
set_option maxHeartbeats 2000000 in
theorem stable_few (cf : Int → Int → Int) (cb : Array Value) (N : Nat) (w0 : World) (hc : Cmps 45 cb N cf w0) (g cap : Nat) (d : Array Int) (w : World) (hp : Pl w0 g cap N d w) (hn : d.size ≤ 19) :
    Calls Try.prog 44 #[.slice (some ⟨g, 0, none⟩) d.size cap, .func (.func 45) #[] cb] w fun e w' => e = .returned (.tuple #[]) ∧ Pl w0 g cap N (Sort.insertionSort (ltI cf) d 0 d.size) w' ∧ (Sort.insertionSort (ltI cf) d 0 d.size).size = d.size := by
  have HIN : Hid (Calls Try.prog 59 #[.slice (some ⟨g, 0, none⟩) d.size cap, .int .i64 0, .int .i64 (d.size : Nat), .func (.func 45) #[] cb] w fun e w' => e = .returned (.tuple #[]) ∧ Pl w0 g cap N (Sort.insertionSort (ltI cf) d 0 d.size) w' ∧ (Sort.insertionSort (ltI cf) d 0 d.size).size = d.size) := Lib.hid (ins_any cf cb N w0 hc g cap 0 d.size d w hp (Nat.zero_le _) (Nat.le_refl _) (by omega))
  have hn1 : ¬ (20 : Int) ≤ (d.size : Int) := by omega
  have hn2 : ¬ (20 : Int) < (d.size : Int) := by omega
  have HST : Hid (Calls Try.prog 53 #[.slice (some ⟨g, 0, none⟩) d.size cap, .int .i64 (d.size : Nat), .func (.func 45) #[] cb] w fun e w' => e = .returned (.tuple #[]) ∧ Pl w0 g cap N (Sort.insertionSort (ltI cf) d 0 d.size) w' ∧ (Sort.insertionSort (ltI cf) d 0 d.size).size = d.size) := by
    refine Lib.hid ?_
    clear hc hp
    go_enter Try.func53, Try.ntmps53
    go_wp2_with fail
    go_loopw [7, 8] (fun va vb wr => va = .int .i64 0 ∧ vb = .int .i64 20 ∧ wr = w) (fun _ _ _ => 0)
    case atStart => exact ⟨rfl, rfl, rfl⟩
    case round =>
      obtain ⟨rfl, rfl, rfl⟩ := hrel
      go_wp2_with fail
      refine HIN.out.mono ?_
      rintro e w1 ⟨rfl, h1⟩
      have H1 := Lib.hid h1
      clear h1
      go_wp2_with fail
      go_loopw [6] (fun vs wr => vs = .int .i64 20 ∧ wr = w1) (fun _ _ => 0)
      case atStart => exact ⟨rfl, rfl⟩
      case round =>
        obtain ⟨rfl, rfl⟩ := hrel
        go_wp2_with fail
        go_end0
        exact ⟨rfl, H1.out⟩
  clear hc hp HIN
  go_enter Try.func44, Try.ntmps44
  go_wp2_with fail
  refine HST.out.mono ?_
  rintro e w1 ⟨rfl, h1⟩
  have H1 := Lib.hid h1
  clear h1
  go_wp2_with fail
  go_end0
  exact ⟨rfl, H1.out⟩
end Go.Proofs.Ytgedhmnkhoajbaa.orders
