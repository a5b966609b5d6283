/- Both rooms side by side; the law's kept. -/
import Derived.Test.YtghegbdnecobkaaRoom11
namespace Go.Proofs.Ytghegbdnecobkaa.rooms
open Go.RowKit

/-- A room and the counting room, with the same words. -/
structure Both (B b rb : Nat) (lim : Int) (xs : List Int) (most : Int) (ao : Option Addr) (cap : Nat) (rao : Option Addr) (rcap : Nat) (w : World) : Prop where
  room : RoomP B b ao cap xs lim most w
  ref : RefP B rb rao rcap xs lim most w
  apart : ∀ j, Mine b ao j → ¬ Mine rb rao j
  le : (xs.length : Int) ≤ lim
  fits : ∀ x ∈ xs, 0 ≤ x ∧ x < 18446744073709551616

/-- Behind the room's Keep with the law's keeper. -/
structure KeptAt (B b rb kb : Nat) (lim : Int) (xs ys : List Int) (n most : Int) (rao : Option Addr) (rcap : Nat) (ak : Option Addr) (capk : Nat) (w w2 : World) : Prop where
  room : ∃ ao' cap', RoomP B b ao' cap' ys lim most w2 ∧ (∀ j, Mine b ao' j → ¬ Mine rb rao j) ∧ (∀ g, ao' = some g → g.block < w2.heap.size) ∧ ¬ Mine b ao' rb
  ref : RefP B rb rao rcap xs lim most w2
  keeper : IsKeeper kb kb n xs xs.length ak capk w2
  below : Below B w w2
theorem KeptAt.only {B b rb kb : Nat} {lim : Int} {xs ys : List Int} {n most : Int} {rao : Option Addr} {rcap : Nat} {ak : Option Addr} {capk : Nat} {w w2 w3 : World} (h : KeptAt B b rb kb lim xs ys n most rao rcap ak capk w w2) (ho : Only (fun _ => False) w2 w3) :
    KeptAt B b rb kb lim xs ys n most rao rcap ak capk w w3 := by
  obtain ⟨ao', cap', h1, h2, h3, h4⟩ := h.room
  have hk := h.keeper
  refine ⟨⟨ao', cap', h1.only ho (fun _ _ e => e), h2, fun g hg => Nat.lt_of_lt_of_le (h3 g hg) ho.size, h4⟩, h.ref.only ho (fun _ _ e => e), ⟨?_, hk.row.only ho (fun _ _ e => e), hk.low, hk.other⟩, h.below.trans (ho.below (Nat.le_trans h.ref.low (Nat.le_of_lt h.ref.lt)) (fun _ _ e => e.elim))⟩
  rw [ho.block kb (lt_of_block hk.blk) (fun e => e)]
  exact hk.blk
abbrev keeperNew (w : World) (n : Int) : World := w.alloc (Obj.cells #[Value.int .u64 n, Value.slice none 0 0, Value.int .i64 0, Value.bool true] 61)
theorem keeper_new (w : World) (n : Int) (xs : List Int) : KInv w.heap.size w.heap.size n xs 0 none (keeperNew w n) :=
  ⟨0, by simpa using heap_alloc_new w (Obj.cells #[Value.int .u64 n, Value.slice none 0 0, Value.int .i64 0, Value.bool true] 61), World.ownsRow_nil _ _ _ _, Nat.le_refl _, fun g hg => by cases hg⟩
section
variable {B b rb : Nat} {lim : Int} {xs : List Int} {most : Int} {ao : Option Addr} {cap : Nat} {rao : Option Addr} {rcap : Nat} {w : World}
theorem Both.lt (h : Both B b rb lim xs most ao cap rao rcap w) : ∀ j, Mine b ao j ∨ Mine rb rao j → j < w.heap.size := by
  rintro j (hj | hj)
  · exact (h.room.mine_lt j hj).2
  · exact (h.ref.mine_lt j hj).2
theorem Both.only (h : Both B b rb lim xs most ao cap rao rcap w) {w' : World} (ho : Only (fun _ => False) w w') : Both B b rb lim xs most ao cap rao rcap w' :=
  ⟨h.room.only ho (fun _ _ e => e), h.ref.only ho (fun _ _ e => e), h.apart, h.le, h.fits⟩
theorem KeptAt.made (h : Both B b rb lim xs most ao cap rao rcap w) (n : Int) {ys : List Int} {ao' ak' : Option Addr} {cap' : Nat} {w2 : World} (h1 : RoomP B b ao' cap' ys lim most w2) (hI : KInv w.heap.size w.heap.size n xs xs.length ak' w2)
    (ho : Only (fun j => j = b ∨ Held (· = w.heap.size) none j) (keeperNew w n) w2) (hn : NewRow (keeperNew w n).heap.size ao ao') : ∃ capk, KeptAt B b rb w.heap.size lim xs ys n most rao rcap ak' capk w w2 := by
  obtain ⟨capk, hk⟩ := hI
  have hlt := h.lt
  have hsz : (keeperNew w n).heap.size = w.heap.size + 1 := by simp [keeperNew]
  have o0 : Only (fun _ => False) w (keeperNew w n) := Only.alloc _ _ _
  have hb : ¬ Mine b ao' rb := by
    rintro (e | ⟨g, hg, e⟩)
    · exact h.apart b (.inl rfl) (.inl e.symm)
    · rcases hn g hg with h2 | h2
      · exact h.apart g.block (.inr ⟨g, h2, rfl⟩) (.inl e.symm)
      · have := hlt rb (.inr (.inl rfl))
        omega
  refine ⟨capk, ⟨ao', cap', h1, ?_, fun g hg => (h1.mine_lt _ (.inr ⟨g, hg, rfl⟩)).2, hb⟩, ?_, hk, ?_⟩
  · intro j hj hr
    rcases mine_new hn hj with h2 | h2
    · exact h.apart j h2 hr
    · have := hlt j (.inr hr)
      omega
  · refine (h.ref.only o0 (fun _ _ e => e)).only ho (fun j hj hm => ?_)
    have := hlt j (.inr hj)
    rcases hm with rfl | rfl | ⟨g, hg, _⟩
    · exact h.apart j (.inl rfl) hj
    · omega
    · cases hg
  · refine (o0.below (Nat.le_trans h.room.low (Nat.le_of_lt h.room.lt)) (fun _ _ e => e.elim)).trans (ho.below ?_ ?_)
    · have := h.room.low
      have := h.room.lt
      omega
    · rintro k hk (rfl | rfl | ⟨g, hg, _⟩)
      · exact h.room.low
      · have := h.room.low
        have := h.room.lt
        omega
      · cases hg
/-- What is left so far, behind k words: a list of its own. -/
def LeftR (N k : Nat) (n : Int) (xs : List Int) (l : Value) (w2 wr : World) : Prop := ∃ lao lcap, l = .slice lao ((xs.take k).filter (fun x => x % n != 0)).length lcap ∧ Row 31 N lao lcap ((xs.take k).filter (fun x => x % n != 0)) wr ∧ Only (fun _ => False) w2 wr
theorem LeftR.next {N k : Nat} {n : Int} {zs : List Int} {lao : Option Addr} {lcap : Nat} {w2 wr : World} (e : (xs.take k).filter (fun x => x % n != 0) = zs) (hrow : Row 31 N lao lcap zs wr) (ho : Only (fun _ => False) w2 wr) : LeftR N k n xs (.slice lao zs.length lcap) w2 wr := by
  subst e
  exact ⟨lao, lcap, rfl, hrow, ho⟩
theorem KeptAt.closed {kb : Nat} {ys : List Int} {n : Int} {ak lao : Option Addr} {capk lcap : Nat} {w2 w3 : World} (h : KeptAt B b rb kb lim xs ys n most rao rcap ak capk w w2) (ho : Only (fun _ => False) w2 w3) (hrow : Row 31 w2.heap.size lao lcap ys w3)
    (hl : (ys.length : Int) ≤ lim) (hf : ∀ x ∈ ys, 0 ≤ x ∧ x < 18446744073709551616) :
    (∃ ao' cap' rao' rcap', Both B b rb lim ys most ao' cap' rao' rcap' (w3.setCell ⟨rb, 0, none⟩ (.slice lao ys.length lcap))) ∧ Below B w (w3.setCell ⟨rb, 0, none⟩ (.slice lao ys.length lcap)) := by
  have h3 := h.only ho
  obtain ⟨ao', cap', r1, r2, r3, r4⟩ := h.room
  have o3 : Only (· = rb) w3 (w3.setCell ⟨rb, 0, none⟩ (.slice lao ys.length lcap)) := Only.setCell (S := (· = rb)) w3 (p := ⟨rb, 0, none⟩) rfl _
  have hrlt := h.ref.lt
  have hrlow := h.ref.low
  have far : ∀ g, lao = some g → w2.heap.size ≤ g.block := fun g hg => (hrow.head g hg).2.1
  refine ⟨⟨ao', cap', lao, lcap, (r1.only ho (fun _ _ e => e)).only o3 (fun j hj e => r4 (by rw [← e]; exact hj)), IsRoom.behind (blk_set h3.ref.blk 0 _) (hrow.base (by omega)) o3 hrlow (fun g hg e => by have := far g hg; omega), ?_, hl, hf⟩, ?_⟩
  · rintro j hj (rfl | ⟨g, hg, rfl⟩)
    · exact r4 hj
    · have := far g hg
      have := (r1.mine_lt _ hj).2
      omega
  · exact h3.below.trans (o3.below (by have := h3.ref.lt; omega) (fun k _ e => by omega))
end

set_option maxHeartbeats 1000000 in
theorem kept_in {B b rb : Nat} {lim : Int} {xs : List Int} {most : Int} {ao : Option Addr} {cap : Nat} {rao : Option Addr} {rcap : Nat} {w : World} (n : Int) (h : Both B b rb lim xs most ao cap rao rcap w) (hlim : lim ≤ 1048576) (hn : 1 ≤ n ∧ n ≤ 100) :
    Calls Try.prog 30 #[.pointer (some ⟨b, 0, none⟩), .pointer (some ⟨rb, 0, none⟩), .int .i64 n] w fun e w' => e = .returned (.bool true) ∧
      ∃ ao' cap' rao' rcap', Both B b rb lim (xs.filter (fun x => x % n != 0)) most ao' cap' rao' rcap' w' ∧ Below B w w' := by
  obtain ⟨i0, hi, hz0, hz1, hz2⟩ := info_parts info64
  have hmf : ∀ (fn : Fn) (first cap : Array Value) (w : World), (Instr.makeFunc fn first cap).run Try.prog w = .ok (.func fn first cap) w := fun _ _ _ _ => rfl
  have H := Lib.hid h
  have hle := h.le
  clear h
  obtain ⟨hn0, hn1⟩ := hn
  go_enter Try.func30, Try.ntmps30
  go_wp2_with fail
  have HA := asks_keeper (B := w.heap.size) (kb := w.heap.size) (n := n) (xs := xs) (by omega) H.out.fits hn0 hn1
  refine (keep_any (ak0 := none) (H.out.only (Only.alloc _ _ _)).room (by omega) enters_keep HA (keeper_new w n xs) ?_).mono ?_
  · rintro j hj (rfl | ⟨g, hg, _⟩)
    · have := H.out.lt _ (.inl hj)
      omega
    · cases hg
  rintro e w2 ⟨rfl, ao2, cap2, ak, r2, i2, _, _, o2, n2⟩
  obtain ⟨capk, hK⟩ := KeptAt.made H.out n r2 i2 o2 n2
  have HK := Lib.hid hK
  clear r2 i2 o2 n2 hK HA
  have c0 := HK.out.ref.c0
  go_wp2_with fail
  go_loopw [9, 10] (fun l i wr => ∃ k : Nat, i = .int .i64 k ∧ k ≤ xs.length ∧ Hid (LeftR w2.heap.size k n xs l w2 wr)) (fun _ i _ => xs.length - (intOf i).toNat)
  case atStart => exact ⟨0, rfl, by omega, Lib.hid ⟨none, 0, rfl, Row.nil _ _ _, Only.refl _ _⟩⟩
  case round =>
    obtain ⟨k, rfl, hk, hR⟩ := hrel
    obtain ⟨lao, lcap, rfl, hrow, hO⟩ := hR.out
    have HR := Lib.hid hrow
    have HO := Lib.hid hO
    have HK3 := Lib.hid (HK.out.only hO)
    clear hrow hO hR c0
    have c0 := HK3.out.ref.c0
    have c3 := cell_of_blk HK3.out.keeper.blk 3
    have c1 := cell_of_blk HK3.out.keeper.blk 1
    have f0 := HK3.out.ref.fz 0
    by_cases hkn : k < xs.length
    · clear c3 c1
      obtain ⟨g, rfl, hcx, _⟩ := HK3.out.ref.at k hkn
      have hnx := filter_next (fun x => x % n != 0) xs k hkn
      have hle : ((xs.take k).filter (fun x => x % n != 0)).length ≤ 1048576 := Nat.le_trans (List.length_filter_le _ _) (by rw [List.length_take]; omega)
      have hm : xs.getD k 0 ∈ xs := by simp [List.getD, List.getElem?_eq_getElem hkn]
      obtain ⟨hx0, hx1⟩ := H.out.fits _ hm
      generalize xs.getD k 0 = x at hcx hnx hx0 hx1
      generalize hys : (xs.take k).filter (fun x => x % n != 0) = ys at *
      have HX := Lib.hid hnx
      clear hnx hm hys
      cases ht : (x % n != 0)
      · go_wp2_with fail
        go_roundw
        case rel => exact ⟨k + 1, by go_num, by omega, Lib.hid (LeftR.next (by rw [HX.out, ht]; simp) HR.out HO.out)⟩
        case measure => simp [intOf]; omega
      · go_wp2_with (at_builtin; refine wp_append_word rfl (.tmp 46) (.tmp 54) 35 rfl w2.heap.size 31 i0 Try.underlying35 hi hz0 hz1 hz2 wr lao lcap ys x rfl HR.out rfl hle HO.out.size ?_; intro lao' lcap' w3 hrow3 ho3 hn3; have HF := Lib.hid (LeftR.next (n := n) (xs := xs) (k := k + 1) (w2 := w2) (zs := ys ++ [x]) (by rw [HX.out, ht]; simp) hrow3 (HO.out.trans ho3 (fun j hj => by rintro ⟨g2, hg2, rfl⟩; have := (HR.out.head g2 hg2).2.1; omega))); clear hrow3 ho3 hn3)
        go_roundw
        case rel => exact ⟨k + 1, by go_num, by omega, Lib.hid (by have h := HF.out; simpa using h)⟩
        case measure => simp [intOf]; omega
    · obtain rfl : k = xs.length := by omega
      rw [List.take_length] at HR c1
      have hle : (xs.filter (fun x => x % n != 0)).length ≤ xs.length := List.length_filter_le _ _
      have hkr := HK3.out.keeper.row
      rw [List.take_length] at hkr
      have hrr : Row 31 B rao rcap xs wr := HK3.out.ref.row
      have HKR := Lib.hid hkr
      have HRR := Lib.hid hrr
      clear hkr hrr hkn
      have hsame := fun m => same_yes (w := wr.drewN m) (Lib.hid (HKR.out.only (Only.drewN (fun _ => False) wr m) (fun _ _ e => e))) (Lib.hid (HRR.out.only (Only.drewN (fun _ => False) wr m) (fun _ _ e => e))) (by omega)
      have HSM := Lib.hid hsame
      clear hsame
      rw [List.take_length]
      generalize hys : xs.filter (fun x => x % n != 0) = ys at *
      go_wp2_with fail
      go_quiet ((go_at_call 15; exact Calls.quiet_of (HSM.out _)))
      have HO2 := Lib.hid (HO.out.same (Only.drewN (fun _ => False) wr nq))
      have HR2 := Lib.hid (HR.out.only (Only.drewN (fun _ => False) wr nq) (fun _ _ e => e))
      have c0 := (HK3.out.only (Only.drewN (fun _ => False) wr nq)).ref.c0
      have f0 := (HK3.out.only (Only.drewN (fun _ => False) wr nq)).ref.fz 0
      generalize wr.drewN nq = w7 at *
      go_wp2_with fail
      go_ret
      obtain ⟨⟨ao', cap', rao', rcap', hb⟩, hbel⟩ := HK.out.closed HO2.out HR2.out (by omega) (fun x hx => H.out.fits x (by subst hys; exact (List.mem_filter.1 hx).1))
      exact ⟨rfl, ao', cap', rao', rcap', by rw [hys]; exact hb, hbel⟩
set_option maxHeartbeats 1000000 in
theorem kept_low {B b rb : Nat} {lim : Int} {xs : List Int} {most : Int} {ao : Option Addr} {cap : Nat} {rao : Option Addr} {rcap : Nat} {w : World} (n : Int) (h : Both B b rb lim xs most ao cap rao rcap w) (hlim : lim ≤ 1048576) (hn : n < 1) :
    Calls Try.prog 30 #[.pointer (some ⟨b, 0, none⟩), .pointer (some ⟨rb, 0, none⟩), .int .i64 n] w fun e w' => e = .returned (.bool true) ∧
      ∃ ao' cap' rao' rcap', Both B b rb lim (xs.filter (fun x => x % 2 != 0)) most ao' cap' rao' rcap' w' ∧ Below B w w' := by
  obtain ⟨i0, hi, hz0, hz1, hz2⟩ := info_parts info64
  have hmf : ∀ (fn : Fn) (first cap : Array Value) (w : World), (Instr.makeFunc fn first cap).run Try.prog w = .ok (.func fn first cap) w := fun _ _ _ _ => rfl
  have H := Lib.hid h
  have hle := h.le
  clear h
  go_enter Try.func30, Try.ntmps30
  go_wp2_with fail
  have HA := asks_keeper (B := w.heap.size) (kb := w.heap.size) (n := 2) (xs := xs) (by omega) H.out.fits (by decide) (by decide)
  refine (keep_any (ak0 := none) (H.out.only (Only.alloc _ _ _)).room (by omega) enters_keep HA (keeper_new w 2 xs) ?_).mono ?_
  · rintro j hj (rfl | ⟨g, hg, _⟩)
    · have := H.out.lt _ (.inl hj)
      omega
    · cases hg
  rintro e w2 ⟨rfl, ao2, cap2, ak, r2, i2, _, _, o2, n2⟩
  obtain ⟨capk, hK⟩ := KeptAt.made H.out 2 r2 i2 o2 n2
  have HK := Lib.hid hK
  clear r2 i2 o2 n2 hK HA
  have c0 := HK.out.ref.c0
  go_wp2_with fail
  go_loopw [9, 10] (fun l i wr => ∃ k : Nat, i = .int .i64 k ∧ k ≤ xs.length ∧ Hid (LeftR w2.heap.size k 2 xs l w2 wr)) (fun _ i _ => xs.length - (intOf i).toNat)
  case atStart => exact ⟨0, rfl, by omega, Lib.hid ⟨none, 0, rfl, Row.nil _ _ _, Only.refl _ _⟩⟩
  case round =>
    obtain ⟨k, rfl, hk, hR⟩ := hrel
    obtain ⟨lao, lcap, rfl, hrow, hO⟩ := hR.out
    have HR := Lib.hid hrow
    have HO := Lib.hid hO
    have HK3 := Lib.hid (HK.out.only hO)
    clear hrow hO hR c0
    have c0 := HK3.out.ref.c0
    have c3 := cell_of_blk HK3.out.keeper.blk 3
    have c1 := cell_of_blk HK3.out.keeper.blk 1
    have f0 := HK3.out.ref.fz 0
    by_cases hkn : k < xs.length
    · clear c3 c1
      obtain ⟨g, rfl, hcx, _⟩ := HK3.out.ref.at k hkn
      have hnx := filter_next (fun x => x % 2 != 0) xs k hkn
      have hle : ((xs.take k).filter (fun x => x % 2 != 0)).length ≤ 1048576 := Nat.le_trans (List.length_filter_le _ _) (by rw [List.length_take]; omega)
      have hm : xs.getD k 0 ∈ xs := by simp [List.getD, List.getElem?_eq_getElem hkn]
      obtain ⟨hx0, hx1⟩ := H.out.fits _ hm
      generalize xs.getD k 0 = x at hcx hnx hx0 hx1
      generalize hys : (xs.take k).filter (fun x => x % 2 != 0) = ys at *
      have HX := Lib.hid hnx
      clear hnx hm hys
      cases ht : (x % 2 != 0)
      · go_wp2_with fail
        go_roundw
        case rel => exact ⟨k + 1, by go_num, by omega, Lib.hid (LeftR.next (by rw [HX.out, ht]; simp) HR.out HO.out)⟩
        case measure => simp [intOf]; omega
      · go_wp2_with (at_builtin; refine wp_append_word rfl (.tmp 46) (.tmp 54) 35 rfl w2.heap.size 31 i0 Try.underlying35 hi hz0 hz1 hz2 wr lao lcap ys x rfl HR.out rfl hle HO.out.size ?_; intro lao' lcap' w3 hrow3 ho3 hn3; have HF := Lib.hid (LeftR.next (n := 2) (xs := xs) (k := k + 1) (w2 := w2) (zs := ys ++ [x]) (by rw [HX.out, ht]; simp) hrow3 (HO.out.trans ho3 (fun j hj => by rintro ⟨g2, hg2, rfl⟩; have := (HR.out.head g2 hg2).2.1; omega))); clear hrow3 ho3 hn3)
        go_roundw
        case rel => exact ⟨k + 1, by go_num, by omega, Lib.hid (by have h := HF.out; simpa using h)⟩
        case measure => simp [intOf]; omega
    · obtain rfl : k = xs.length := by omega
      rw [List.take_length] at HR c1
      have hle : (xs.filter (fun x => x % 2 != 0)).length ≤ xs.length := List.length_filter_le _ _
      have hkr := HK3.out.keeper.row
      rw [List.take_length] at hkr
      have hrr : Row 31 B rao rcap xs wr := HK3.out.ref.row
      have HKR := Lib.hid hkr
      have HRR := Lib.hid hrr
      clear hkr hrr hkn
      have hsame := fun m => same_yes (w := wr.drewN m) (Lib.hid (HKR.out.only (Only.drewN (fun _ => False) wr m) (fun _ _ e => e))) (Lib.hid (HRR.out.only (Only.drewN (fun _ => False) wr m) (fun _ _ e => e))) (by omega)
      have HSM := Lib.hid hsame
      clear hsame
      rw [List.take_length]
      generalize hys : xs.filter (fun x => x % 2 != 0) = ys at *
      go_wp2_with fail
      go_quiet ((go_at_call 15; exact Calls.quiet_of (HSM.out _)))
      have HO2 := Lib.hid (HO.out.same (Only.drewN (fun _ => False) wr nq))
      have HR2 := Lib.hid (HR.out.only (Only.drewN (fun _ => False) wr nq) (fun _ _ e => e))
      have c0 := (HK3.out.only (Only.drewN (fun _ => False) wr nq)).ref.c0
      have f0 := (HK3.out.only (Only.drewN (fun _ => False) wr nq)).ref.fz 0
      generalize wr.drewN nq = w7 at *
      go_wp2_with fail
      go_ret
      obtain ⟨⟨ao', cap', rao', rcap', hb⟩, hbel⟩ := HK.out.closed HO2.out HR2.out (by omega) (fun x hx => H.out.fits x (by subst hys; exact (List.mem_filter.1 hx).1))
      exact ⟨rfl, ao', cap', rao', rcap', by rw [hys]; exact hb, hbel⟩
set_option maxHeartbeats 1000000 in
theorem kept_high {B b rb : Nat} {lim : Int} {xs : List Int} {most : Int} {ao : Option Addr} {cap : Nat} {rao : Option Addr} {rcap : Nat} {w : World} (n : Int) (h : Both B b rb lim xs most ao cap rao rcap w) (hlim : lim ≤ 1048576) (hn : 100 < n) :
    Calls Try.prog 30 #[.pointer (some ⟨b, 0, none⟩), .pointer (some ⟨rb, 0, none⟩), .int .i64 n] w fun e w' => e = .returned (.bool true) ∧
      ∃ ao' cap' rao' rcap', Both B b rb lim (xs.filter (fun x => x % 2 != 0)) most ao' cap' rao' rcap' w' ∧ Below B w w' := by
  obtain ⟨i0, hi, hz0, hz1, hz2⟩ := info_parts info64
  have hmf : ∀ (fn : Fn) (first cap : Array Value) (w : World), (Instr.makeFunc fn first cap).run Try.prog w = .ok (.func fn first cap) w := fun _ _ _ _ => rfl
  have H := Lib.hid h
  have hle := h.le
  clear h
  have hd : decide (n < 1) = false := decide_eq_false (by omega)
  go_enter Try.func30, Try.ntmps30
  go_wp2_with fail
  have HA := asks_keeper (B := w.heap.size) (kb := w.heap.size) (n := 2) (xs := xs) (by omega) H.out.fits (by decide) (by decide)
  refine (keep_any (ak0 := none) (H.out.only (Only.alloc _ _ _)).room (by omega) enters_keep HA (keeper_new w 2 xs) ?_).mono ?_
  · rintro j hj (rfl | ⟨g, hg, _⟩)
    · have := H.out.lt _ (.inl hj)
      omega
    · cases hg
  rintro e w2 ⟨rfl, ao2, cap2, ak, r2, i2, _, _, o2, n2⟩
  obtain ⟨capk, hK⟩ := KeptAt.made H.out 2 r2 i2 o2 n2
  have HK := Lib.hid hK
  clear r2 i2 o2 n2 hK HA
  have c0 := HK.out.ref.c0
  go_wp2_with fail
  go_loopw [9, 10] (fun l i wr => ∃ k : Nat, i = .int .i64 k ∧ k ≤ xs.length ∧ Hid (LeftR w2.heap.size k 2 xs l w2 wr)) (fun _ i _ => xs.length - (intOf i).toNat)
  case atStart => exact ⟨0, rfl, by omega, Lib.hid ⟨none, 0, rfl, Row.nil _ _ _, Only.refl _ _⟩⟩
  case round =>
    obtain ⟨k, rfl, hk, hR⟩ := hrel
    obtain ⟨lao, lcap, rfl, hrow, hO⟩ := hR.out
    have HR := Lib.hid hrow
    have HO := Lib.hid hO
    have HK3 := Lib.hid (HK.out.only hO)
    clear hrow hO hR c0
    have c0 := HK3.out.ref.c0
    have c3 := cell_of_blk HK3.out.keeper.blk 3
    have c1 := cell_of_blk HK3.out.keeper.blk 1
    have f0 := HK3.out.ref.fz 0
    by_cases hkn : k < xs.length
    · clear c3 c1
      obtain ⟨g, rfl, hcx, _⟩ := HK3.out.ref.at k hkn
      have hnx := filter_next (fun x => x % 2 != 0) xs k hkn
      have hle : ((xs.take k).filter (fun x => x % 2 != 0)).length ≤ 1048576 := Nat.le_trans (List.length_filter_le _ _) (by rw [List.length_take]; omega)
      have hm : xs.getD k 0 ∈ xs := by simp [List.getD, List.getElem?_eq_getElem hkn]
      obtain ⟨hx0, hx1⟩ := H.out.fits _ hm
      generalize xs.getD k 0 = x at hcx hnx hx0 hx1
      generalize hys : (xs.take k).filter (fun x => x % 2 != 0) = ys at *
      have HX := Lib.hid hnx
      clear hnx hm hys
      cases ht : (x % 2 != 0)
      · go_wp2_with fail
        go_roundw
        case rel => exact ⟨k + 1, by go_num, by omega, Lib.hid (LeftR.next (by rw [HX.out, ht]; simp) HR.out HO.out)⟩
        case measure => simp [intOf]; omega
      · go_wp2_with (at_builtin; refine wp_append_word rfl (.tmp 46) (.tmp 54) 35 rfl w2.heap.size 31 i0 Try.underlying35 hi hz0 hz1 hz2 wr lao lcap ys x rfl HR.out rfl hle HO.out.size ?_; intro lao' lcap' w3 hrow3 ho3 hn3; have HF := Lib.hid (LeftR.next (n := 2) (xs := xs) (k := k + 1) (w2 := w2) (zs := ys ++ [x]) (by rw [HX.out, ht]; simp) hrow3 (HO.out.trans ho3 (fun j hj => by rintro ⟨g2, hg2, rfl⟩; have := (HR.out.head g2 hg2).2.1; omega))); clear hrow3 ho3 hn3)
        go_roundw
        case rel => exact ⟨k + 1, by go_num, by omega, Lib.hid (by have h := HF.out; simpa using h)⟩
        case measure => simp [intOf]; omega
    · obtain rfl : k = xs.length := by omega
      rw [List.take_length] at HR c1
      have hle : (xs.filter (fun x => x % 2 != 0)).length ≤ xs.length := List.length_filter_le _ _
      have hkr := HK3.out.keeper.row
      rw [List.take_length] at hkr
      have hrr : Row 31 B rao rcap xs wr := HK3.out.ref.row
      have HKR := Lib.hid hkr
      have HRR := Lib.hid hrr
      clear hkr hrr hkn
      have hsame := fun m => same_yes (w := wr.drewN m) (Lib.hid (HKR.out.only (Only.drewN (fun _ => False) wr m) (fun _ _ e => e))) (Lib.hid (HRR.out.only (Only.drewN (fun _ => False) wr m) (fun _ _ e => e))) (by omega)
      have HSM := Lib.hid hsame
      clear hsame
      rw [List.take_length]
      generalize hys : xs.filter (fun x => x % 2 != 0) = ys at *
      go_wp2_with fail
      go_quiet ((go_at_call 15; exact Calls.quiet_of (HSM.out _)))
      have HO2 := Lib.hid (HO.out.same (Only.drewN (fun _ => False) wr nq))
      have HR2 := Lib.hid (HR.out.only (Only.drewN (fun _ => False) wr nq) (fun _ _ e => e))
      have c0 := (HK3.out.only (Only.drewN (fun _ => False) wr nq)).ref.c0
      have f0 := (HK3.out.only (Only.drewN (fun _ => False) wr nq)).ref.fz 0
      generalize wr.drewN nq = w7 at *
      go_wp2_with fail
      go_ret
      obtain ⟨⟨ao', cap', rao', rcap', hb⟩, hbel⟩ := HK.out.closed HO2.out HR2.out (by omega) (fun x hx => H.out.fits x (by subst hys; exact (List.mem_filter.1 hx).1))
      exact ⟨rfl, ao', cap', rao', rcap', by rw [hys]; exact hb, hbel⟩
/-- What kept leaves of the words. -/
def leftOf (n : Int) (xs : List Int) : List Int := xs.filter (fun x => x % (if n < 1 ∨ 100 < n then 2 else n) != 0)
theorem kept_any {B b rb : Nat} {lim : Int} {xs : List Int} {most : Int} {ao : Option Addr} {cap : Nat} {rao : Option Addr} {rcap : Nat} {w : World} (n : Int) (h : Both B b rb lim xs most ao cap rao rcap w) (hlim : lim ≤ 1048576) :
    Calls Try.prog 30 #[.pointer (some ⟨b, 0, none⟩), .pointer (some ⟨rb, 0, none⟩), .int .i64 n] w fun e w' => e = .returned (.bool true) ∧
      ∃ ao' cap' rao' rcap', Both B b rb lim (leftOf n xs) most ao' cap' rao' rcap' w' ∧ Below B w w' := by
  unfold leftOf
  by_cases h0 : n < 1
  · rw [if_pos (.inl h0)]
    exact kept_low n h hlim h0
  · by_cases h1 : 100 < n
    · rw [if_pos (.inr h1)]
      exact kept_high n h hlim h1
    · rw [if_neg (by omega)]
      exact kept_in n h hlim (by omega)
end Go.Proofs.Ytghegbdnecobkaa.rooms
