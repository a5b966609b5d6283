/- Operators: a table's maps; several are put in. -/
import Derived.Test.YtodgjkdhkohckaaDoorOperClone
import Derived.Maps.OwnSet
import Derived.Maps.Views
import Derived.Maps.Keyed
import Derived.StringKeys
import Derived.MapViews
namespace Go.Proofs.YtodgjkdhkohckaaDoor.opers
open Go.RowKit Go.Proofs.YtodgjkdhkohckaaDoor.own Go.Maps
def keyN (n : ByteArray) : Lit := .string n.data.toList
theorem keyN_key (n : ByteArray) : WideAt.IsKeyLit (keyN n) := by trivial
theorem keyed : Keyed Tryd.prog 9 := string_keyed Tryd.underlying9
theorem keyOfM {n : ByteArray} (h : n.size ≤ maxLen) : keyOf Tryd.prog 9 (.string n) = some (keyN n) := WideMaps.keyOf_string_mk Tryd.underlying9 h
abbrev D1 := DataW Unit
def opD (p k : Int) (n : ByteArray) : D1 := .agg [.lit (.int .i64 p), .lit (.int .i64 k), .lit (.string n.data.toList)]
/-- How an operator reads. -/
def opR : Value → Option (D1 × List MemPlace)
  | .agg a => match a.toList with
    | [.int .i64 p, .int .i64 k, .string n] => some (opD p k n, [])
    | _ => none
  | _ => none
theorem opR_mk (p k : Int) (n : ByteArray) : opR (.agg #[.int .i64 p, .int .i64 k, .string n]) = some (opD p k n, []) := rfl
abbrev OMap (W : World) (m n : Nat) (D : D1) : Prop := W.ownsMap Tryd.prog 9 opR m n D
theorem map_only {S : Nat → Prop} {w w' : World} {b n : Nat} {D : D1} (h : OMap w b n D) (ho : Only S w w') (hS : ¬ S b) : OMap w' b n D := by
  obtain ⟨es, clock, hb, r⟩ := h
  exact ⟨es, clock, by rw [ho.block b (lt_of_block hb) hS]; exact hb, r⟩
theorem map_ne {w : World} {m n b : Nat} {D : D1} {cs : Array Value} {t : TypeId} (h : OMap w m n D) (hb : w.heap[b]? = some (.cells cs t (0, 0))) : m ≠ b := by
  intro e
  subst e
  obtain ⟨es, clock, hm, _⟩ := h
  rw [hm] at hb
  cases hb
theorem Only.turned {w w' : World} {b : Nat} (h : w.mapTurned w' b) : Only (· = b) w w' := (Only.grown h.grown).mono (fun _ _ e => by simpa using e)
/-- The table's own cell. -/
abbrev BoxT (b mi mp : Nat) (W : World) : Prop := W.heap[b]? = some (.cells #[.map (some mi), .map (some mp)] 52 (0, 0))
def sideOf (k : Int) (mi mp : Nat) : Nat := if isPreF k = true then mp else mi
set_option maxRecDepth 100000 in
theorem like_any (b mi mp : Nat) (k : Int) (w : World) (hb : BoxT b mi mp w) : Calls Tryd.prog 48 #[.pointer (some ⟨b, 0, none⟩), .int .i64 k] w fun e w' => e = .returned (.map (some (sideOf k mi mp))) ∧ w' = w := by
  have HP : Hid (∀ W, Calls Tryd.prog 43 #[.int .i64 k] W fun e w' => e = .returned (.bool (isPreF k)) ∧ w' = W) := Lib.hid (isPre_any k)
  have c0 := cell_of_blk hb 0
  have c1 := cell_of_blk hb 1
  simp only [List.getElem?_toArray, List.getElem?_cons_zero, List.getElem?_cons_succ] at c0 c1
  cases hk : isPreF k with
  | true =>
    have hE : Hid (sideOf k mi mp = mp) := Lib.hid (by unfold sideOf; rw [if_pos hk])
    rw [hk] at HP
    clear hk hb
    go_enter Tryd.func48, Tryd.ntmps48
    go_wp2_with fail
    refine (HP.out _).mono ?_
    rintro e w1 ⟨rfl, rfl⟩
    go_wp2_with fail
    go_ret
    exact ⟨by rw [hE.out]; rfl, rfl⟩
  | false =>
    have hE : Hid (sideOf k mi mp = mi) := Lib.hid (by unfold sideOf; rw [if_neg (by rw [hk]; simp)])
    rw [hk] at HP
    clear hk hb
    go_enter Tryd.func48, Tryd.ntmps48
    go_wp2_with fail
    refine (HP.out _).mono ?_
    rintro e w1 ⟨rfl, rfl⟩
    go_wp2_with fail
    go_ret
    exact ⟨by rw [hE.out]; rfl, rfl⟩
def putsF (p k : Int) (ns : List ByteArray) (D : D1) : D1 := ns.foldl (fun D n => D.put (keyN n) (opD p k n)) D
theorem putsF_snoc (p k : Int) (ns : List ByteArray) (n : ByteArray) (D : D1) : putsF p k (ns ++ [n]) D = (putsF p k ns D).put (keyN n) (opD p k n) := by
  unfold putsF
  rw [List.foldl_append]
  rfl
set_option maxRecDepth 100000 in
set_option maxHeartbeats 4000000 in
theorem put_any (b mi mp m n a cap : Nat) (D : D1) (p k : Int) (ns : List ByteArray) (w : World) (hb : BoxT b mi mp w) (hm : m = sideOf k mi mp) (hown : OMap w m n D) (hrow : w.heap[a]? = some (.cells (ns.map Value.string).toArray 9 (0, 0))) (hsz : ∀ x ∈ ns, x.size ≤ 64) (hn : n + ns.length ≤ 1000000) :
    Calls Tryd.prog 28 #[.pointer (some ⟨b, 0, none⟩), .int .i64 p, .int .i64 k, .slice (some ⟨a, 0, none⟩) ns.length cap] w fun e w' => e = .returned (.tuple #[]) ∧ OMap w' m (n + ns.length) (putsF p k ns D) ∧ Only (· = m) w w' := by
  have hmb : m ≠ b := map_ne hown hb
  have hma : m ≠ a := map_ne hown hrow
  have HB : Hid (∀ W, Only (· = m) w W → BoxT b mi mp W) := Lib.hid (fun W ho => by
    unfold BoxT
    rw [ho.block b (lt_of_block hb) (fun e => hmb e.symm)]; exact hb)
  have HR : Hid (∀ W, Only (· = m) w W → W.heap[a]? = some (.cells (ns.map Value.string).toArray 9 (0, 0))) := Lib.hid (fun W ho => by
    rw [ho.block a (lt_of_block hrow) (fun e => hma e.symm)]; exact hrow)
  have HLK : Hid (∀ W, BoxT b mi mp W → Calls Tryd.prog 48 #[.pointer (some ⟨b, 0, none⟩), .int .i64 k] W fun e w' => e = .returned (.map (some m)) ∧ w' = W) := Lib.hid (fun W h => by rw [hm]; exact like_any b mi mp k W h)
  have HSZ := Lib.hid hsz
  have HI0 : Hid (OMap w m (n + 0) (putsF p k (ns.take 0) D) ∧ Only (· = m) w w) := Lib.hid ⟨hown, Only.refl _ _⟩
  clear hb hm hown hrow hsz hmb hma
  go_enter Tryd.func28, Tryd.ntmps28
  go_wp2_with fail
  go_loopw [12] (fun i wr => ∃ j : Nat, i = .int .i64 j ∧ j ≤ ns.length ∧ Hid (OMap wr m (n + j) (putsF p k (ns.take j) D) ∧ Only (· = m) w wr)) (fun i _ => ns.length - (intOf i).toNat)
  case atStart => exact ⟨0, rfl, by omega, HI0⟩
  case round =>
    obtain ⟨j, rfl, hj, hI⟩ := hrel
    clear HI0
    by_cases hlt : j < ns.length
    · obtain ⟨x, hx⟩ : ∃ x, ns[j]? = some x := ⟨_, List.getElem?_eq_getElem hlt⟩
      have hc := cell_of_blk (HR.out wr hI.out.2) j
      rw [List.getElem?_toArray, List.getElem?_map, hx, Option.map_some] at hc
      have hxs := HSZ.out x (List.mem_of_getElem? hx)
      have HT : Hid (putsF p k (ns.take (j + 1)) D = (putsF p k (ns.take j) D).put (keyN x) (opD p k x)) := Lib.hid (by
        rw [List.take_add_one, hx]; exact putsF_snoc p k (ns.take j) x D)
      have hkey : keyOf Tryd.prog 9 (.string x) = some (keyN x) := keyOfM (by unfold maxLen; omega)
      have h0 : (0 : Int) ≤ (j : Int) := by omega
      have h1 : (j : Int) < (ns.length : Int) := by omega
      have HXS := Lib.hid hxs
      clear hx hxs
      go_wp2_with fail
      refine (clone_any x _ HXS.out).mono ?_
      rintro e w1 ⟨rfl, hbl⟩
      have HO1 : Hid (Only (· = m) w w1 ∧ OMap w1 m (n + j) (putsF p k (ns.take j) D)) := Lib.hid ⟨hI.out.2.same (Only.of_below hbl _), map_only hI.out.1 (Only.of_below hbl (fun _ => False)) (fun e => e)⟩
      clear hbl hc
      go_wp2_with fail
      refine (HLK.out _ (HB.out _ HO1.out.1)).mono ?_
      rintro e w2 ⟨rfl, rfl⟩
      go_wp2_with (first
        | (at_mapUpdate; refine wpList_mapUpdate_in _ rfl _ _ _ 50 rfl 9 32 keyed Tryd.underlying50 opR m (n + j) (putsF p k (ns.take j) D) rfl HO1.out.2 (by unfold maxLen; omega) _ _ _ rfl rfl hkey _ [] (opR_mk p k x) ?_; intro w3 hown3 hturn3
           rw [← HT.out] at hown3
           have HI3 : Hid (OMap w3 m (n + (j + 1)) (putsF p k (ns.take (j + 1)) D) ∧ Only (· = m) w w3) := Lib.hid ⟨hown3, HO1.out.1.same (Only.turned hturn3)⟩
           clear hown3 hturn3)
        | fail)
      go_roundw
      case rel => exact ⟨j + 1, by go_num, by omega, HI3⟩
      case measure => simp [intOf]; omega
    · obtain rfl : j = ns.length := by omega
      have HF : Hid (OMap wr m (n + ns.length) (putsF p k ns D) ∧ Only (· = m) w wr) := Lib.hid (by have h := hI.out; rw [List.take_length] at h; exact h)
      go_wp2_with fail
      go_end0
      exact ⟨rfl, HF.out.1, HF.out.2⟩
end Go.Proofs.YtodgjkdhkohckaaDoor.opers
