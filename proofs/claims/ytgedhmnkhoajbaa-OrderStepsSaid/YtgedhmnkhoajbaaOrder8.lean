/- Order: Sort, Merge (of three, two of them alike), Least: of few terms. -/
import Derived.Test.YtgedhmnkhoajbaaOrder7
import Derived.Deep.Onto
namespace Go.Proofs.Ytgedhmnkhoajbaa.orders
open Go.RowKit Go.Proofs.Ytgedhmnkhoajbaa.own Go.Maps Go.Proofs.Ytgedhmnkhoajbaa.terms
theorem LowN.mem {N : Nat} {d : Array Int} (h : LowN N d) : ∀ p ∈ d.toList, 0 ≤ p ∧ p < N := by
  intro p hp
  obtain ⟨i, hi, he⟩ := List.getElem_of_mem hp
  have hi2 : i < d.size := by simpa using hi
  have := h i hi2
  rw [getElem!_pos d i hi2] at this
  rw [← he, Array.getElem_toList]
  exact this
/-- What is asked of few terms that are sorted. -/
structure Few (l : List T) : Prop where
  len : l.length ≤ 19
  ok : ∀ x ∈ l, x.Ok
  un : ∀ i, 1 ≤ i → i < l.length → (meetF (l.getD (srt l)[i - 1]!.toNat default) (l.getD (srt l)[i]!.toNat default)).2 = false
set_option maxRecDepth 100000 in
set_option maxHeartbeats 2000000 in
theorem Sort_few (l : List T) (w : World) (lo : Option Addr) (lc : Nat) (hl : Lies w lo l) (hf : Few l) :
    Calls Try.prog 13 #[.slice lo l.length lc] w fun e w' => ∃ g cap, e = .returned (.tuple #[.slice (some ⟨g, 0, none⟩) l.length cap, .int .i64 0]) ∧ Lies w' (some ⟨g, 0, none⟩) ((srt l).toList.map (atL l)) ∧ Only (fun _ => False) w w' := by
  have HSO := Lib.hid (sorted_few l w lo lc hl hf.len hf.ok hf.un)
  have HL := Lib.hid hl
  have HF := Lib.hid hf
  clear hl hf
  go_enter Try.func13, Try.ntmps13
  go_wp2_with fail
  refine HSO.out.mono ?_
  rintro e w1 ⟨g, cap, B, hB, rfl, hint, hsz, hlow, ho⟩
  have HO := Lib.hid ho
  have hsl : (srt l).toList.length = l.length := by rw [Array.length_toList]; exact hsz
  have HCL := clones_any l (srt l).toList w1 lo lc g cap B (HL.out.later ho) HF.out.ok hint hlow.mem (by rw [hsl]; have := HF.out.len; omega)
  simp only [hsl] at HCL
  have HC := Lib.hid HCL
  clear hint hlow ho HCL HSO
  go_wp2_with fail
  refine HC.out.mono ?_
  rintro e w2 ⟨g2, cap2, rfl, hl2, ho2⟩
  have H2 : Hid (Lies w2 (some ⟨g2, 0, none⟩) ((srt l).toList.map (atL l)) ∧ Only (fun _ => False) w w2) := Lib.hid ⟨hl2, HO.out.same ho2⟩
  clear hl2 ho2 HC
  go_wp2_with fail
  go_ret2
  exact ⟨g2, cap2, rfl, H2.out.1, H2.out.2⟩
set_option maxRecDepth 100000 in
set_option maxHeartbeats 2000000 in
theorem Least_few (l : List T) (w : World) (lo : Option Addr) (lc : Nat) (hl : Lies w lo l) (hf : Few l) (p : Int) (hp : (srt l)[0]! = p) (hne : 0 < l.length) :
    Calls Try.prog 15 #[.slice lo l.length lc] w fun e w' => e = .returned (.tuple #[.int .i64 p, .int .i64 0]) ∧ Only (fun _ => False) w w' := by
  have HSO := Lib.hid (sorted_few l w lo lc hl hf.len hf.ok hf.un)
  have HP := Lib.hid hp
  clear hl hf hp
  have hn0 : ((l.length : Int) == 0) = false := by
    simp only [beq_eq_false_iff_ne, ne_eq]; omega
  have hn1 : (0 : Int) < (l.length : Int) := by omega
  go_enter Try.func15, Try.ntmps15
  go_wp2_with fail
  refine HSO.out.mono ?_
  rintro e w1 ⟨g, cap, B, hB, rfl, hint, hsz, hlow, ho⟩
  have HO := Lib.hid ho
  have hx : (srt l).toList[0]? = some p := by
    have h0 : 0 < (srt l).size := by rw [hsz]; exact hne
    rw [Array.getElem?_toList, Array.getElem?_eq_getElem h0, ← getElem!_pos (srt l) 0 h0, HP.out]
  obtain ⟨g', hg, _, hc⟩ := hint.at liesN 0 p hx
  cases hg
  have hc0 := hc 0 (by omega)
  simp only [encN, List.getElem?_cons_zero, Nat.mul_one, Nat.add_zero] at hc0
  obtain ⟨k0, _⟩ := hc0
  clear hint hlow ho HSO hx hc hsz
  go_wp2_with fail
  go_ret2
  exact ⟨rfl, HO.out⟩
set_option maxRecDepth 100000 in
set_option maxHeartbeats 2000000 in
theorem Least_none (w : World) :
    Calls Try.prog 15 #[.slice none 0 0] w fun e w' => e = .returned (.tuple #[.int .i64 0, .int .i64 4]) ∧ Only (fun _ => False) w w' := by
  have HSO := Lib.hid (sorted_few [] w none 0 (Row.nil _ _ none) (by simp) (fun x hx => by cases hx) (fun i h1 h2 => absurd h2 (by simp)))
  go_enter Try.func15, Try.ntmps15
  go_wp2_with fail
  refine HSO.out.mono ?_
  rintro e w1 ⟨g, cap, B, hB, rfl, hint, hsz, hlow, ho⟩
  have HO := Lib.hid ho
  clear hint hlow ho HSO
  go_wp2_with fail
  go_ret2
  exact ⟨rfl, HO.out⟩
set_option maxRecDepth 100000 in
set_option maxHeartbeats 2000000 in
theorem Merge_three (l : List T) (w : World) (lo : Option Addr) (lc : Nat) (hl : Lies w lo l) (hf : Few l) (hn : l.length = 3) (p0 p1 p2 : Int) (hp : srt l = #[p0, p1, p2]) (h1 : (cfL l p1 p0 == 0) = false) (h2 : (cfL l p2 p1 == 0) = true) :
    Calls Try.prog 14 #[.slice lo 3 lc] w fun e w' => ∃ g cap, e = .returned (.tuple #[.slice (some ⟨g, 0, none⟩) 2 cap, .int .i64 0]) ∧ Only (fun _ => False) w w' := by
  have HSO : Hid (∀ W, Only (fun _ => False) w W → Calls Try.prog 31 #[.slice lo 3 lc] W fun e w' => ∃ g cap B, W.heap.size ≤ B ∧ e = .returned (.tuple #[.slice (some ⟨g, 0, none⟩) 3 cap, .int .i64 0]) ∧ Ints B (some ⟨g, 0, none⟩) cap [p0, p1, p2] w' ∧ LowN 3 #[p0, p1, p2] ∧ Only (fun _ => False) W w') := Lib.hid (fun W ho => by
    have h := sorted_few l W lo lc (hl.later ho) hf.len hf.ok hf.un
    rw [hp, hn] at h
    exact h.mono (fun e w' ⟨g, cap, B, a1, a2, a3, a4, a5, a6⟩ => ⟨g, cap, B, a1, a2, a3, a5, a6⟩))
  have HL := Lib.hid hl
  have HF := Lib.hid hf
  have HN := Lib.hid hn
  have HE := Lib.hid (And.intro h1 h2)
  have hb0 := heap_alloc_new w (.cells #[.slice lo 3 lc] 22)
  have HO0 : Hid (Only (fun _ => False) w (w.alloc (.cells #[.slice lo 3 lc] 22))) := Lib.hid (Only.alloc _ _ _)
  have HB0 := Lib.hid hb0
  have b0 := cell_of_blk hb0 0
  simp only [List.getElem?_toArray, List.getElem?_cons_zero, List.getElem?_cons_succ] at b0
  clear hl hf hn hp h1 h2 hb0
  go_enter Try.func14, Try.ntmps14
  go_wp2_with fail
  generalize w.alloc (.cells #[.slice lo 3 lc] 22) = w0 at *
  refine (HSO.out _ HO0.out).mono ?_
  rintro e w1 ⟨g, cap, B, hB, rfl, hint, hlow, ho⟩
  have HO1 := Lib.hid ho
  have HCO : Hid (Calls Try.prog 33 #[.slice (some ⟨g, 0, none⟩) 3 cap, .func (.func 34) #[] #[.pointer (some ⟨w.heap.size, 0, none⟩)]] w1 fun e w' => e = .returned (.slice (some ⟨g, 0, none⟩) 2 cap) ∧ Pl w0 g cap 3 #[p0, p1] w') := by
    have h := eqs_l l lo lc w.heap.size w0 (HL.out.later HO0.out) (by rw [HN.out]; exact HB0.out)
    rw [HN.out] at h
    have hi2 : Ints w0.heap.size (some ⟨g, 0, none⟩) cap [p0, p1, p2] w1 := World.ownsRow.mono hint hB
    exact Lib.hid (compact3 _ _ 3 w0 h g cap p0 p1 p2 w1 ⟨hi2, ho, hlow⟩ HE.out.1 HE.out.2)
  have b1 := cell_of_blk (blk_later HB0.out ho) 0
  simp only [List.getElem?_toArray, List.getElem?_cons_zero, List.getElem?_cons_succ] at b1
  clear hint hlow ho b0 HSO
  go_wp2_with fail
  refine HCO.out.mono ?_
  rintro e w2 ⟨rfl, hpl⟩
  have HCL := clones_any l [p0, p1] w2 lo lc g cap w0.heap.size ((HL.out.later HO0.out).later hpl.own) HF.out.ok hpl.row (by rw [HN.out]; exact hpl.low.mem) (by simp)
  rw [HN.out] at HCL
  have HC := Lib.hid HCL
  have HO2 : Hid (Only (fun _ => False) w w2) := Lib.hid (HO0.out.same hpl.own)
  have b2 := cell_of_blk (blk_later HB0.out hpl.own) 0
  simp only [List.getElem?_toArray, List.getElem?_cons_zero, List.getElem?_cons_succ] at b2
  clear hpl HCL HCO b1
  go_wp2_with fail
  refine HC.out.mono ?_
  rintro e w3 ⟨g2, cap2, rfl, hl2, ho2⟩
  have H3 := Lib.hid (HO2.out.same ho2)
  clear hl2 ho2 HC b2
  go_wp2_with fail
  go_ret2
  exact ⟨g2, cap2, rfl, H3.out⟩
end Go.Proofs.Ytgedhmnkhoajbaa.orders
