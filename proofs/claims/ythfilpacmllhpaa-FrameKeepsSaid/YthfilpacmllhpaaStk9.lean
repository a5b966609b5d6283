/- Environments and choices in memory: Chain of the current environment. -/
import Derived.Test.YthfilpacmllhpaaStk8
namespace Go.Proofs.Ythfilpacmllhpaa.stk
set_option maxRecDepth 100000
open Go.RowKit Go.Proofs.Ythfilpacmllhpaa.own
open Go.Proofs.Ythfilpacmllhpaa.rooms (RoomP IsRoom)
/-- An environment that is told, its slots elsewhere. -/
structure Gr where
  f : Fr
  so : Option Addr
  sc : Nat
def encG (g : Gr) : List Value := [.int .i64 g.f.base, .slice g.so g.f.ys.length g.sc, .int .i64 g.f.cl, .int .i64 g.f.at']
theorem liesG : Lies encG 4 := ⟨fun _ => rfl, fun x u h => by
  simp only [encG, List.mem_cons, List.not_mem_nil, or_false] at h
  rcases h with rfl | rfl | rfl | rfl <;> rfl, by decide⟩
theorem infoF : (Try.prog.info? 87).map (fun i => (i.zero, i.size, i.bytes)) = some (some (.agg #[.int .i64 0, .slice none 0 0, .int .i64 0, .int .i64 0]), 4, 48) := by kernel_rfl
/-- Environments as they are told: a row, and the rows of their slots. -/
structure Told (B : Nat) (ao : Option Addr) (cap : Nat) (gs : List Gr) (w : World) : Prop where
  row : RowOf encG 4 87 B ao cap gs w
  ys : ∀ g ∈ gs, RowOf encW 1 35 B g.so g.sc g.f.ys w
section
variable {b rb : Nat} {ao co : Option Addr} {cap cc : Nat} {most wl lim : Int} {s : St} {w w' : World}
theorem Told.only {S : Nat → Prop} {B : Nat} {lo : Option Addr} {lc : Nat} {gs : List Gr} (h : Told B lo lc gs w) (ho : Only S w w') (hS : ∀ k, B ≤ k → k < w.heap.size → ¬ S k) : Told B lo lc gs w' :=
  ⟨h.row.only ho (fun g hg => hS _ (h.row.head g hg).2.1 (h.row.head g hg).2.2), fun g hg => (h.ys g hg).only ho (fun a ha => hS _ ((h.ys g hg).head a ha).2.1 ((h.ys g hg).head a ha).2.2)⟩
theorem row_types {α β : Type} {e1 : α → List Value} {e2 : β → List Value} {s1 s2 E1 E2 B1 B2 : Nat} {a1 a2 : Option Addr} {c1 c2 : Nat} {xs : List α} {ys : List β} {w : World} (h1 : RowOf e1 s1 E1 B1 a1 c1 xs w) (h2 : RowOf e2 s2 E2 B2 a2 c2 ys w) (hne : E1 ≠ E2) : ∀ g, a1 = some g → ¬ RowAt a2 g.block := by
  rintro g hg ⟨g', hg', e⟩
  rcases h1.2 with ⟨q, _⟩ | ⟨k1, _, cur1, hv1, _, hh1, _⟩
  · simp only [Value.slice.injEq] at q; rw [q.1] at hg; cases hg
  · rcases h2.2 with ⟨q, _⟩ | ⟨k2, _, cur2, hv2, _, hh2, _⟩
    · simp only [Value.slice.injEq] at q; rw [q.1] at hg'; cases hg'
    · simp only [Value.slice.injEq] at hv1 hv2
      rw [hv1.1] at hg; cases hg
      rw [hv2.1] at hg'; cases hg'
      have e' : k1 = k2 := e
      subst e'
      rw [hh1] at hh2
      injection hh2 with hh2
      injection hh2 with _ ht
      exact hne ht
/-- Chain, under way. -/
structure Cwk (fs : List Fr) (k : Nat) (lo : Option Addr) (lc : Nat) (w wr : World) : Prop where
  told : ∃ gs, gs.map (·.f) = fs.take k ∧ gs.length = k ∧ Told w.heap.size lo lc gs wr
  o : Only (fun _ => False) w wr
theorem Ch.drop {xs : List Int} : ∀ {fs : List Fr} (k : Nat), Ch xs fs → Ch xs (fs.drop k)
  | fs, 0, h => h
  | [], _ + 1, _ => trivial
  | _ :: _, k + 1, h => Ch.drop k h.2.2
theorem head_next {xs : List Int} {f : Fr} {fs : List Fr} (h : Ch xs (f :: fs)) : headB fs < f.base := by
  cases fs with
  | nil => simp only [headB]; omega
  | cons g gs => have := h.2.1; simp only [endF] at this; simp only [headB]; omega
set_option maxHeartbeats 4000000 in
theorem Chain_cur (h : Stk b rb ao cap most co cc s wl lim w) : Calls Try.prog 14 #[.pointer (some ⟨b, 0, none⟩), .int .i64 (headB s.cur)] w fun e w' => ∃ lo lc gs, e = .returned (.slice lo s.cur.length lc) ∧ gs.map (·.f) = s.cur ∧ Told w.heap.size lo lc gs w' ∧ Only (fun _ => False) w w' := by
  cases hn : s.cur with
  | nil =>
    have HB := Lib.hid (closed_no h.box)
    have HH := Lib.hid (has_none h)
    show Calls _ _ #[_, .int .i64 (-1)] _ _
    clear h hn
    go_enter Try.func14, Try.ntmps14
    go_wp2_with fail
    refine HB.out.mono ?_
    rintro e u ⟨rfl, hu⟩
    obtain rfl : w = u := hu.symm
    go_wp2_with fail
    refine HH.out.mono ?_
    rintro e w1 ⟨rfl, ho⟩
    have HO := Lib.hid ho
    clear ho
    go_wp2_with fail
    go_ret
    exact ⟨none, 0, [], rfl, rfl, ⟨RowOf.nil _ _ _ _ _, fun g hg => by cases hg⟩, HO.out⟩
  | cons f0 fs0 =>
    have HB := Lib.hid (closed_no h.box)
    have HH := Lib.hid (has_head h hn)
    have HC := Lib.hid (hn ▸ h.ok.cur : Ch s.xs (f0 :: fs0))
    have HFR : Hid (∀ (f : Fr) (p : Int) (W : World), FrAt s.xs f p → Only (fun _ => False) w W → Calls Try.prog 49 #[.pointer (some ⟨b, 0, none⟩), .int .i64 f.base] W fun e w' => ∃ so sc, e = .returned (.agg #[.int .i64 f.base, .slice so f.ys.length sc, .int .i64 f.cl, .int .i64 f.at']) ∧ RowOf encW 1 35 W.heap.size so sc f.ys w' ∧ Only (fun _ => False) W w') := Lib.hid (fun f p W hf o => frame_at (h.later o).box (h.later o).room hf h.len)
    have HPV : Hid (∀ (f : Fr) (p : Int) (W : World), FrAt s.xs f p → Fits p → Only (fun _ => False) w W → Calls Try.prog 48 #[.pointer (some ⟨b, 0, none⟩), .int .i64 f.base] W fun e w' => e = .returned (.int .i64 p) ∧ w' = W) := Lib.hid (fun f p W hf hp o => previous_at (h.later o).box (h.later o).room hf hp h.len)
    have HXL := Lib.hid h.len
    obtain ⟨i0, hi, hz0, hz1, hz2⟩ := info_parts infoF
    have hle := h.ok.cur.end_le
    have hxl := h.len
    have hcl : (f0 :: fs0).length ≤ 1048576 := by
      have key : ∀ (fs : List Fr), Ch s.xs fs → fs.length ≤ endF fs := by
        intro fs
        induction fs with
        | nil => intro _; exact Nat.le_refl _
        | cons f fs ih => intro hc; have := ih hc.2.2; have := hc.2.1; simp only [List.length_cons, endF]; omega
      have := key _ (hn ▸ h.ok.cur : Ch s.xs (f0 :: fs0))
      rw [hn] at hle
      omega
    have HCL := Lib.hid hcl
    clear h hn hle hxl hcl
    generalize hfs : f0 :: fs0 = fs at *
    have HFS := Lib.hid hfs
    show Calls _ _ #[_, .int .i64 (headB fs)] _ _
    have hbase : Hid (headB fs = f0.base) := Lib.hid (by rw [← hfs]; rfl)
    clear hfs
    rw [hbase.out]
    go_enter Try.func14, Try.ntmps14
    go_wp2_with fail
    refine HB.out.mono ?_
    rintro e u ⟨rfl, hu⟩
    obtain rfl : w = u := hu.symm
    go_wp2_with fail
    refine HH.out.mono ?_
    rintro e w1 ⟨rfl, ho⟩
    have HC0 : Hid (Cwk fs 0 none 0 w w1) := Lib.hid ⟨⟨[], rfl, rfl, RowOf.nil _ _ _ _ _, fun g hg => by cases hg⟩, ho⟩
    clear ho
    go_wp2_with fail
    go_loopw [1, 5] (fun i a wr => ∃ (k : Nat) (lo : Option Addr) (lc : Nat), i = .int .i64 (headB (fs.drop k)) ∧ a = .slice lo k lc ∧ k ≤ fs.length ∧ Hid (Cwk fs k lo lc w wr)) (fun i _ _ => (intOf i + 1).toNat)
    case atStart => exact ⟨0, none, 0, by rw [List.drop_zero, hbase.out], rfl, Nat.zero_le _, HC0⟩
    case round =>
      obtain ⟨k, lo, lc, rfl, rfl, hk, hR⟩ := hrel
      obtain ⟨gs, hgm, hgl, htold⟩ := hR.out.told
      have HGM := Lib.hid hgm
      have HGL := Lib.hid hgl
      have HT := Lib.hid htold
      clear hgm hgl htold
      by_cases hlt : k < fs.length
      · obtain ⟨f, hf⟩ : ∃ f, f = fs[k] := ⟨_, rfl⟩
        have hdr : fs.drop k = f :: fs.drop (k + 1) := by rw [hf]; exact List.drop_eq_getElem_cons hlt
        have hch := HC.out.drop k
        rw [hdr] at hch
        have HFA := Lib.hid hch.1
        have HNX := Lib.hid (head_next hch)
        have HFP := Lib.hid (fits_head hch.2.2 HXL.out)
        have HTK : Hid (fs.take (k + 1) = fs.take k ++ [f]) := Lib.hid (by rw [hf]; exact (List.take_succ_eq_append_getElem hlt))
        rw [hdr, show headB (f :: fs.drop (k + 1)) = f.base from rfl]
        have hne : ((f.base : Int) != -1) = true := by simp
        have hkm := HCL.out
        clear hf hdr hch
        go_wp2_with fail
        refine (HFR.out f _ wr HFA.out hR.out.o).mono ?_
        rintro e w2 ⟨so, sc, rfl, hrow2, ho2⟩
        have HR2 := Lib.hid hrow2
        have HO2 := Lib.hid (hR.out.o.same ho2)
        have HSZ := Lib.hid hR.out.o.size
        have HT2 := Lib.hid (HT.out.only ho2 (fun _ _ _ e => e))
        clear hrow2 ho2
        go_wp2_with (first
          | (at_builtin; go_loud (refine wp_append_one liesG (by rfl) (.tmp 19) (.tmp 23) 43 (by rfl) w.heap.size 87 i0 _ 48 Try.underlying43 hi hz0 hz1 hz2 rfl (by omega) w2 lo lc gs ⟨f, so, sc⟩ [.int .i64 f.base, .slice so f.ys.length sc, .int .i64 f.cl, .int .i64 f.at'] rfl (by rw [HGL.out]; rfl) HT2.out.row (by rfl) (by have := HGL.out; omega) HO2.out.size ?_)
             intro lo2 lc2 w3 hrow3 ho3 _
             have HO3 : Hid (Only (fun _ => False) w w3) := Lib.hid (cut HO2.out ho3 (fun kk ⟨g, hg, e⟩ => by have := (HT2.out.row.head g hg).2.1; omega))
             have HT3 : Hid (Told w.heap.size lo2 lc2 (gs ++ [⟨f, so, sc⟩]) w3) := Lib.hid ⟨hrow3, fun g hg => by
               rcases List.mem_append.1 hg with hg | hg
               · exact (HT2.out.ys g hg).only ho3 (row_types (HT2.out.ys g hg) HT2.out.row (by decide))
               · rw [List.mem_singleton.1 hg]
                 exact RowOf.lower (HR2.out.only ho3 (row_types HR2.out HT2.out.row (by decide))) HSZ.out⟩
             clear hrow3 ho3)
          | fail)
        refine (HPV.out f _ w3 HFA.out HFP.out HO3.out).mono ?_
        rintro e u ⟨rfl, hu⟩
        obtain rfl : w3 = u := hu.symm
        have HL : Hid ((gs ++ [(⟨f, so, sc⟩ : Gr)]).length = k + 1) := Lib.hid (by rw [List.length_append, HGL.out]; rfl)
        have HFW : Hid (Cwk fs (k + 1) lo2 lc2 w w3) := Lib.hid ⟨⟨gs ++ [⟨f, so, sc⟩], by rw [List.map_append, HGM.out, HTK.out]; rfl, HL.out, HT3.out⟩, HO3.out⟩
        generalize hq : headB (fs.drop (k + 1)) = q at *
        have HQ := Lib.hid hq
        clear hq
        go_wp2_with fail
        go_roundw
        case rel => exact ⟨k + 1, lo2, lc2, by rw [HQ.out], by rw [HGL.out], by omega, HFW⟩
        case measure => simp [intOf]; have := HNX.out; omega
      · obtain rfl : k = fs.length := by omega
        rw [List.drop_length, show headB [] = -1 from rfl]
        have hgm := HGM.out
        rw [List.take_of_length_le (Nat.le_refl _)] at hgm
        have HGM2 := Lib.hid hgm
        clear hgm
        go_wp2_with fail
        go_ret
        exact ⟨lo, lc, gs, rfl, HGM2.out, HT.out, hR.out.o⟩
end
end Go.Proofs.Ythfilpacmllhpaa.stk
