/- Order: two terms held against each other. -/
import Derived.Test.YtgedhmnkhoajbaaTermRow
import Derived.Test.YtgedhmnkhoajbaaShelf
import Derived.BigQuiet
import Derived.Deep.RegionHeld3
namespace Go.Proofs.Ytgedhmnkhoajbaa.orders
open Go.RowKit Go.Proofs.Ytgedhmnkhoajbaa.own Go.Maps Go.Proofs.Ytgedhmnkhoajbaa.terms
def cS (a b : ByteArray) : Int := Lib.compareBytes a.data.toList b.data.toList
mutual
def meetF : T → T → Int × Bool | .mk k n s l, t => if Lib.compareInt k t.k ≠ 0 then (Lib.compareInt k t.k, false) else if k = 1 then (Lib.compareInt n t.n, n != t.n) else if k = 2 then (Lib.compareInt n t.n, false) else if k = 3 then (cS s t.s, false) else if Lib.compareInt (l.length : Nat) (t.l.length : Nat) ≠ 0 then (Lib.compareInt (l.length : Nat) (t.l.length : Nat), false) else if cS s t.s ≠ 0 then (cS s t.s, false) else meets l t.l
def meets : List T → List T → Int × Bool | x :: r, y :: q => if (meetF x y).1 ≠ 0 then meetF x y else meets r q | _, _ => (0, false)
end
/-- Two terms in their boxes. -/
structure Two (w : World) (t u : T) (ao bo : Option Addr) (cap bcap : Nat) (W : World) : Prop where
  t : Held w.heap.size t ao cap W
  u : Held (w.heap.size + 1) u bo bcap W
  o : Only (fun _ => False) w W
theorem Two.later {w : World} {t u : T} {ao bo : Option Addr} {cap bcap : Nat} {W W' : World} (h : Two w t u ao bo cap bcap W) (ho : Only (fun _ => False) W W') : Two w t u ao bo cap bcap W' := ⟨h.t.later ho, h.u.later ho, h.o.same ho⟩
theorem Two.new {w : World} {t u : T} {ao bo : Option Addr} {cap bcap : Nat} (hl : Lies w ao t.l) (hl' : Lies w bo u.l) : Two w t u ao bo cap bcap ((w.alloc (.cells #[.int .i64 t.k, .int .i64 t.n, .string t.s, .slice ao t.l.length cap] 24)).alloc (.cells #[.int .i64 u.k, .int .i64 u.n, .string u.s, .slice bo u.l.length bcap] 24)) := by
  have h1 := Held.new cap hl
  have h2 := Held.new (t := u) bcap (hl'.later (Only.alloc (fun _ => False) w (.cells #[.int .i64 t.k, .int .i64 t.n, .string t.s, .slice ao t.l.length cap] 24)))
  rw [show (w.alloc (.cells #[.int .i64 t.k, .int .i64 t.n, .string t.s, .slice ao t.l.length cap] 24)).heap.size = w.heap.size + 1 by simp] at h2
  exact ⟨h1.later (Only.alloc _ _ _), h2, (Only.alloc _ _ _).same (Only.alloc _ _ _)⟩
theorem cI_zero {a b : Int} : Lib.compareInt a b = 0 ↔ a = b := by
  unfold Lib.compareInt
  split
  · omega
  · split <;> omega
theorem meets_step {l l' : List T} {j : Nat} {x y : T} (hx : l[j]? = some x) (hy : l'[j]? = some y) (h : meets l l' = meets (l.drop j) (l'.drop j)) : meets l l' = if (meetF x y).1 ≠ 0 then meetF x y else meets (l.drop (j + 1)) (l'.drop (j + 1)) := by
  rw [h]
  obtain ⟨hj, hx⟩ := List.getElem?_eq_some_iff.1 hx
  obtain ⟨hj', hy⟩ := List.getElem?_eq_some_iff.1 hy
  rw [List.drop_eq_getElem_cons hj, List.drop_eq_getElem_cons hj', hx, hy]
  rfl
/-- What meet answers of a term, against any other one. -/
def MeetsAll (x : T) : Prop := ∀ (u : T) (w : World) (ao bo : Option Addr) (cap bcap : Nat), Lies w ao x.l → x.Sane → Lies w bo u.l → u.Sane → Calls Try.prog 28 #[tv x ao cap, tv u bo bcap] w fun e w' => e = .returned (.tuple #[.int .i64 (meetF x u).1, .bool (meetF x u).2]) ∧ Only (fun _ => False) w w'
set_option maxRecDepth 100000 in
set_option maxHeartbeats 4000000 in
theorem parts_any (t u : T) (ih : ∀ x ∈ t.l, MeetsAll x) (w : World) (ao bo : Option Addr) (cap bcap : Nat) (hl : Lies w ao t.l) (hs : t.Sane) (hl' : Lies w bo u.l) (hs' : u.Sane) (r : Int × Bool) (hr : (if Lib.compareInt (t.l.length : Nat) (u.l.length : Nat) ≠ 0 then (Lib.compareInt (t.l.length : Nat) (u.l.length : Nat), false) else if cS t.s u.s ≠ 0 then (cS t.s u.s, false) else meets t.l u.l) = r) :
    Calls Try.prog 41 #[tv t ao cap, tv u bo bcap] w fun e w' => e = .returned (.tuple #[.int .i64 r.1, .bool r.2]) ∧ Only (fun _ => False) w w' := by
  have HT0 := Lib.hid (Two.new (cap := cap) (bcap := bcap) hl hl')
  have HL := Lib.hid hl
  have HL' := Lib.hid hl'
  have HI := Lib.hid ih
  have HR := Lib.hid hr
  have hlen := hs.l
  have hlen' := hs'.l
  unfold maxLen at hlen hlen'
  have HC1 := Lib.hid (fun W => Try.cmp_Compare_int (t.l.length : Nat) (u.l.length : Nat) W)
  have HC2 : Hid (∀ W, Calls Try.prog 40 #[.string t.s, .string u.s] W fun e w' => e = .returned (.int .i64 (cS t.s u.s)) ∧ w' = W) := Lib.hid (fun W => Try.strings_Compare t.s u.s W)
  have HZ : Hid (Lib.compareInt (t.l.length : Nat) (u.l.length : Nat) = 0 → t.l.length = u.l.length) := Lib.hid (fun h => by have := cI_zero.1 h; omega)
  obtain ⟨c0, c1, c2, c3⟩ := HT0.out.t.q.cells
  obtain ⟨d0, d1, d2, d3⟩ := HT0.out.u.q.cells
  generalize Lib.compareInt (t.l.length : Nat) (u.l.length : Nat) = v1 at *
  generalize cS t.s u.s = v2 at *
  clear hl hl' ih hs hs' hr
  go_enter Try.func41, Try.ntmps41
  go_wp2_with fail
  refine (HC1.out _).mono ?_
  rintro e w1 ⟨rfl, rfl⟩
  generalize ((w.alloc (.cells #[.int .i64 t.k, .int .i64 t.n, .string t.s, .slice ao t.l.length cap] 24)).alloc (.cells #[.int .i64 u.k, .int .i64 u.n, .string u.s, .slice bo u.l.length bcap] 24)) = w1 at *
  by_cases h1 : v1 = 0
  · have hle := HZ.out h1
    have HR1 := HR.out
    rw [if_neg (by simpa using h1)] at HR1
    have HR2 := Lib.hid HR1
    subst h1
    clear HR1 HR
    go_wp2_with fail
    refine (HC2.out _).mono ?_
    rintro e w1 ⟨rfl, rfl⟩
    by_cases h2 : v2 = 0
    · have HR1 := HR2.out
      rw [if_neg (by simpa using h2)] at HR1
      have HR3 := Lib.hid HR1
      subst h2
      clear HR1 HR2
      have HI0 : Hid (meets t.l u.l = meets (t.l.drop 0) (u.l.drop 0) ∧ Two w t u ao bo cap bcap w1) := Lib.hid ⟨rfl, HT0.out⟩
      go_wp2_with fail
      go_loopw [32] (fun i wr => ∃ j : Nat, i = .int .i64 j ∧ j ≤ t.l.length ∧ Hid (meets t.l u.l = meets (t.l.drop j) (u.l.drop j) ∧ Two w t u ao bo cap bcap wr)) (fun i _ => t.l.length - (intOf i).toNat)
      case atStart => exact ⟨0, rfl, by omega, HI0⟩
      case round =>
        obtain ⟨j, rfl, hj, hI⟩ := hrel
        clear HI0 c0 c1 c2 c3 d0 d1 d2 d3
        by_cases hlt : j < t.l.length
        · obtain ⟨x, hx⟩ : ∃ x, t.l[j]? = some x := ⟨_, List.getElem?_eq_getElem hlt⟩
          obtain ⟨y, hy⟩ : ∃ y, u.l[j]? = some y := ⟨_, List.getElem?_eq_getElem (by omega)⟩
          have HST := Lib.hid (meets_step hx hy hI.out.1)
          obtain ⟨b, off, xo, xc, rfl, hb, t0, t1, t2, t3, hxs, hxl⟩ := hI.out.2.t.l.at hx
          obtain ⟨b', off', yo, yc, rfl, hb', s0, s1, s2, s3, hys, hyl⟩ := hI.out.2.u.l.at hy
          have HX := Lib.hid (And.intro hxs hxl)
          have HY := Lib.hid (And.intro hys hyl)
          have HM := Lib.hid (HI.out x (List.mem_of_getElem? hx))
          have hj0 : (0 : Int) ≤ (j : Int) := by omega
          have hj1 : (j : Int) < (t.l.length : Int) := by omega
          have hj2 : (j : Int) < (u.l.length : Int) := by omega
          have HK : Hid (∀ w', Only (fun _ => False) wr w' → w'.cell? ⟨w.heap.size, 3, none⟩ = some (.slice (some ⟨b, off, none⟩) t.l.length cap) ∧ w'.cell? ⟨w.heap.size + 1, 3, none⟩ = some (.slice (some ⟨b', off', none⟩) u.l.length bcap) ∧ w'.cell? ⟨b, off + j * 4, none⟩ = some (.int .i64 x.k) ∧ w'.cell? ⟨b, off + j * 4 + 1, none⟩ = some (.int .i64 x.n) ∧ w'.cell? ⟨b, off + j * 4 + 2, none⟩ = some (.string x.s) ∧ w'.cell? ⟨b, off + j * 4 + 3, none⟩ = some (.slice xo x.l.length xc) ∧ w'.cell? ⟨b', off' + j * 4, none⟩ = some (.int .i64 y.k) ∧ w'.cell? ⟨b', off' + j * 4 + 1, none⟩ = some (.int .i64 y.n) ∧ w'.cell? ⟨b', off' + j * 4 + 2, none⟩ = some (.string y.s) ∧ w'.cell? ⟨b', off' + j * 4 + 3, none⟩ = some (.slice yo y.l.length yc)) := Lib.hid (fun w' ho => by
            obtain ⟨c0, c1, c2, c3⟩ := (hI.out.2.later ho).t.q.cells
            obtain ⟨d0, d1, d2, d3⟩ := (hI.out.2.later ho).u.q.cells
            exact ⟨c3, d3, (ho.cell (p := ⟨b, off + j * 4, none⟩) hb (fun e => e)).trans t0, (ho.cell (p := ⟨b, off + j * 4 + 1, none⟩) hb (fun e => e)).trans t1, (ho.cell (p := ⟨b, off + j * 4 + 2, none⟩) hb (fun e => e)).trans t2, (ho.cell (p := ⟨b, off + j * 4 + 3, none⟩) hb (fun e => e)).trans t3, (ho.cell (p := ⟨b', off' + j * 4, none⟩) hb' (fun e => e)).trans s0, (ho.cell (p := ⟨b', off' + j * 4 + 1, none⟩) hb' (fun e => e)).trans s1, (ho.cell (p := ⟨b', off' + j * 4 + 2, none⟩) hb' (fun e => e)).trans s2, (ho.cell (p := ⟨b', off' + j * 4 + 3, none⟩) hb' (fun e => e)).trans s3⟩)
          have HA : Hid (Only (fun _ => False) wr wr.drew) := Lib.hid (Only.drew _ _)
          clear hx hy hxs hxl hys hyl t0 t1 t2 t3 s0 s1 s2 s3
          go_wp2_with fail
          go_region_held3 (fun w' => w'.cell? ⟨w.heap.size, 3, none⟩ = some (.slice (some ⟨b, off, none⟩) t.l.length cap) ∧ w'.cell? ⟨w.heap.size + 1, 3, none⟩ = some (.slice (some ⟨b', off', none⟩) u.l.length bcap) ∧ w'.cell? ⟨b, off + j * 4, none⟩ = some (.int .i64 x.k) ∧ w'.cell? ⟨b, off + j * 4 + 1, none⟩ = some (.int .i64 x.n) ∧ w'.cell? ⟨b, off + j * 4 + 2, none⟩ = some (.string x.s) ∧ w'.cell? ⟨b, off + j * 4 + 3, none⟩ = some (.slice xo x.l.length xc) ∧ w'.cell? ⟨b', off' + j * 4, none⟩ = some (.int .i64 y.k) ∧ w'.cell? ⟨b', off' + j * 4 + 1, none⟩ = some (.int .i64 y.n) ∧ w'.cell? ⟨b', off' + j * 4 + 2, none⟩ = some (.string y.s) ∧ w'.cell? ⟨b', off' + j * 4 + 3, none⟩ = some (.slice yo y.l.length yc)) (first | exact HK.out _ HA.out | go_keep) (first
            | (go_at_call 28; refine (HM.out y _ xo yo xc yc (HX.out.2.later HA.out) HX.out.1 (HY.out.2.later HA.out) HY.out.1).mono ?_; rintro e wx ⟨rfl, ho⟩; have HA := Lib.hid (HA.out.same ho); clear ho))
          generalize meetF x y = m at *
          obtain ⟨m1, m2⟩ := m
          by_cases hm : m1 = 0
          · subst hm
            have HI2 : Hid (meets t.l u.l = meets (t.l.drop (j + 1)) (u.l.drop (j + 1)) ∧ Two w t u (some ⟨b, off, none⟩) (some ⟨b', off', none⟩) cap bcap _) := Lib.hid ⟨by have := HST.out; simpa using this, hI.out.2.later HA.out⟩
            go_wp2_with fail
            go_roundw
            case rel => exact ⟨j + 1, by go_num, by omega, HI2⟩
            case measure => simp [intOf]; omega
          · have hm1 : (m1 == 0) = false := by simpa using hm
            have HE : Hid ((m1, m2) = r) := Lib.hid (by have := HST.out; rw [if_pos hm] at this; rw [← HR3.out, this])
            go_wp2_with fail
            go_ret2
            rw [← HE.out]
            exact ⟨rfl, hI.out.2.o.same HA.out⟩
        · obtain rfl : j = t.l.length := by omega
          have HE : Hid (((0 : Int), false) = r) := Lib.hid (by
            rw [← HR3.out, hI.out.1, List.drop_length]
            cases u.l.drop t.l.length <;> rfl)
          go_wp2_with fail
          go_ret2
          rw [← HE.out]
          exact ⟨rfl, hI.out.2.o⟩
    · have hm1 : (v2 == 0) = false := by simpa using h2
      have HE : Hid ((v2, false) = r) := Lib.hid (by have := HR2.out; rw [if_pos h2] at this; exact this)
      go_wp2_with fail
      go_ret2
      rw [← HE.out]
      exact ⟨rfl, HT0.out.o⟩
  · have hm1 : (v1 == 0) = false := by simpa using h1
    have HE : Hid ((v1, false) = r) := Lib.hid (by have := HR.out; rw [if_pos h1] at this; exact this)
    go_wp2_with fail
    go_ret2
    rw [← HE.out]
    exact ⟨rfl, HT0.out.o⟩
set_option maxRecDepth 100000 in
set_option maxHeartbeats 4000000 in
theorem meet_of (t : T) (ih : ∀ x ∈ t.l, MeetsAll x) : MeetsAll t := by
  intro u w ao bo cap bcap hl hs hl' hs'
  have HT0 := Lib.hid (Two.new (cap := cap) (bcap := bcap) hl hl')
  have HPA : Hid (∀ r W, Only (fun _ => False) w W → (if Lib.compareInt (t.l.length : Nat) (u.l.length : Nat) ≠ 0 then (Lib.compareInt (t.l.length : Nat) (u.l.length : Nat), false) else if cS t.s u.s ≠ 0 then (cS t.s u.s, false) else meets t.l u.l) = r → Calls Try.prog 41 #[tv t ao cap, tv u bo bcap] W fun e w' => e = .returned (.tuple #[.int .i64 r.1, .bool r.2]) ∧ Only (fun _ => False) W w') := Lib.hid (fun r W ho hr => parts_any t u ih W ao bo cap bcap (hl.later ho) hs (hl'.later ho) hs' r hr)
  obtain ⟨r, hr⟩ : ∃ r, meetF t u = r := ⟨_, rfl⟩
  rw [hr]
  have hm : meetF t u = if Lib.compareInt t.k u.k ≠ 0 then (Lib.compareInt t.k u.k, false) else if t.k = 1 then (Lib.compareInt t.n u.n, t.n != u.n) else if t.k = 2 then (Lib.compareInt t.n u.n, false) else if t.k = 3 then (cS t.s u.s, false) else if Lib.compareInt (t.l.length : Nat) (u.l.length : Nat) ≠ 0 then (Lib.compareInt (t.l.length : Nat) (u.l.length : Nat), false) else if cS t.s u.s ≠ 0 then (cS t.s u.s, false) else meets t.l u.l := by
    obtain ⟨k, n, s, l⟩ := t
    rw [meetF]
    rfl
  rw [hm] at hr
  have HR := Lib.hid hr
  have HC0 := Lib.hid (fun W => Try.cmp_Compare_int t.k u.k W)
  have HC1 := Lib.hid (fun W => Try.cmp_Compare_int t.n u.n W)
  have HC2 : Hid (∀ W, Calls Try.prog 40 #[.string t.s, .string u.s] W fun e w' => e = .returned (.int .i64 (cS t.s u.s)) ∧ w' = W) := Lib.hid (fun W => Try.strings_Compare t.s u.s W)
  obtain ⟨c0, c1, c2, c3⟩ := HT0.out.t.q.cells
  obtain ⟨d0, d1, d2, d3⟩ := HT0.out.u.q.cells
  generalize Lib.compareInt t.k u.k = v0 at *
  generalize Lib.compareInt t.n u.n = v1 at *
  generalize cS t.s u.s = v2 at *
  clear hl hl' ih hs hs' hr hm
  go_enter Try.func28, Try.ntmps28
  go_wp2_with fail
  refine (HC0.out _).mono ?_
  rintro e w1 ⟨rfl, rfl⟩
  generalize ((w.alloc (.cells #[.int .i64 t.k, .int .i64 t.n, .string t.s, .slice ao t.l.length cap] 24)).alloc (.cells #[.int .i64 u.k, .int .i64 u.n, .string u.s, .slice bo u.l.length bcap] 24)) = w1 at *
  by_cases h0 : v0 = 0
  · have HR1 := HR.out
    rw [if_neg (by simpa using h0)] at HR1
    have HR2 := Lib.hid HR1
    subst h0
    clear HR1 HR HC0
    by_cases h1 : t.k = 1
    · have q1 : (t.k == 1) = true := by simpa using h1
      have HE : Hid ((v1, t.n != u.n) = r) := Lib.hid (by have := HR2.out; rw [if_pos h1] at this; exact this)
      clear h1 HR2
      go_wp2_with fail
      go_quiet ((go_at_call 39; exact Calls.quiet_of_same (HC1.out _)))
      have hdr : Only (fun _ => False) w1 (w1.drewN nq) := Only.drewN _ _ _
      go_wp2_with fail
      go_ret2
      rw [← HE.out]
      exact ⟨by simp [bne], HT0.out.o.same hdr⟩
    · have q1 : (t.k == 1) = false := by simpa using h1
      by_cases h2 : t.k = 2
      · have q2 : (t.k == 2) = true := by simpa using h2
        have HE : Hid ((v1, false) = r) := Lib.hid (by have := HR2.out; rw [if_neg h1, if_pos h2] at this; exact this)
        clear h1 h2 HR2
        go_wp2_with fail
        refine (HC1.out _).mono ?_
        rintro e w2 ⟨rfl, rfl⟩
        go_wp2_with fail
        go_ret2
        rw [← HE.out]
        exact ⟨rfl, HT0.out.o⟩
      · have q2 : (t.k == 2) = false := by simpa using h2
        by_cases h3 : t.k = 3
        · have q3 : (t.k == 3) = true := by simpa using h3
          have HE : Hid ((v2, false) = r) := Lib.hid (by have := HR2.out; rw [if_neg h1, if_neg h2, if_pos h3] at this; exact this)
          clear h1 h2 h3 HR2
          go_wp2_with fail
          refine (HC2.out _).mono ?_
          rintro e w2 ⟨rfl, rfl⟩
          go_wp2_with fail
          go_ret2
          rw [← HE.out]
          exact ⟨rfl, HT0.out.o⟩
        · have q3 : (t.k == 3) = false := by simpa using h3
          have HE : Hid _ := Lib.hid (by have := HR2.out; rw [if_neg h1, if_neg h2, if_neg h3] at this; exact this)
          clear h1 h2 h3 HR2
          go_wp2_with fail
          refine (HPA.out r _ HT0.out.o HE.out).mono ?_
          rintro e w2 ⟨rfl, ho2⟩
          have HO2 := Lib.hid (HT0.out.o.same ho2)
          clear ho2
          go_wp2_with fail
          go_ret2
          exact ⟨rfl, HO2.out⟩
  · have hm1 : (v0 == 0) = false := by simpa using h0
    have HE : Hid ((v0, false) = r) := Lib.hid (by have := HR.out; rw [if_pos h0] at this; exact this)
    go_wp2_with fail
    go_ret2
    rw [← HE.out]
    exact ⟨rfl, HT0.out.o⟩
theorem meet_any (t : T) : MeetsAll t := by
  induction t using T.ind with
  | h k n s l ih => exact meet_of _ ih
end Go.Proofs.Ytgedhmnkhoajbaa.orders
