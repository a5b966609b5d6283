/- Tokens: the reference writes a name. -/
import Derived.Test.YtogccafnfpmgmaaDoorTokPl
import Derived.Test.YtogccafnfpmgmaaDoorTokS
import Derived.Deep.AppendLies
import Derived.Deep.RegionLaw
namespace Go.Proofs.YtogccafnfpmgmaaDoor.toks
open Go.RowKit Go.Proofs.YtogccafnfpmgmaaDoor.own
theorem rowAt_new' {B : Nat} {ao : Option Addr} {cap : Nat} {xs : List UInt8} {w w' : World} (h : RowOf encU 1 5 B ao cap xs w) (ho : Only (RowAt ao) w w') : Only (fun q => B ≤ q) w w' := ho.mono (fun q _ e => by
  obtain ⟨g, hg, rfl⟩ := e
  exact (h.head g hg).2.1)
theorem Byts.lit (bs : List UInt8) (cs : Array Value) (hcs : cs = (bs.map (fun x => Value.int .u8 (iv x))).toArray) (W : World) (t : TypeId) : Byts (some ⟨W.heap.size, 0, none⟩) bs (W.alloc (.cells cs t)) := by
  subst hcs
  exact Byts.new bs W t (0, 0)
/-- append(own, a few bytes..). -/
theorem wp_append_lit {W : World} {ops : Array Oper} {rest : List Oper} {o : Oper} {a : Act} {Q : Exit → Act → World → Prop}
    (hgd : o.guard = none) (sl x : Operand) (ho : o.op = .call { callee := .builtin .append, args := #[sl, x], argTypes := #[22, 22] })
    (B : Nat) (ao : Option Addr) (cap : Nat) (xs bs : List UInt8) (cs : Array Value) (hcs : cs = (bs.map (fun x => Value.int .u8 (iv x))).toArray) (hs : a.eval sl = .slice ao xs.length cap) (hrow : RowOf encU 1 5 B ao cap xs W) (hx : a.eval x = .slice (some ⟨W.heap.size, 0, none⟩) bs.length bs.length)
    (hl : xs.length + bs.length ≤ 1000000) (hB : B ≤ W.heap.size)
    (h : ∀ ao' cap' w', RowOf encU 1 5 B ao' cap' (xs ++ bs) w' → Only (fun q => B ≤ q) W w' → wpList Tryd.prog ops Q rest (a.put o.dst (.slice ao' (xs ++ bs).length cap')) w') :
    wpList Tryd.prog ops Q (o :: rest) a (W.alloc (.cells cs 5)) := by
  have hrow2 : RowOf encU 1 5 B ao cap xs (W.alloc (.cells cs 5)) := RowOf.only hrow (Only.alloc (fun _ => False) W _) (fun _ _ e => e)
  refine wp_append_bytes hgd sl x ho B ao (some ⟨W.heap.size, 0, none⟩) cap bs.length xs bs hs hrow2 hx (Byts.lit bs cs hcs W _) (fun e => by cases e) (fun g e => by cases e; rfl) hl (by simp; omega) ?_
  intro ao' cap' w' h1 h2 h3
  exact h ao' cap' w' h1 ((Only.alloc _ _ _).same (rowAt_new' hrow2 h2))
/-- .. in a region that draws its order. -/
theorem step_append_bytes {ops : Array Oper} {o : Oper} {a : Act} {K : Act → World → Prop} {Q : Exit → Act → World → Prop} {F : Prop} (hgd : o.guard = none) (sl x : Operand)
    (ho : o.op = .call { callee := .builtin .append, args := #[sl, x], argTypes := #[22, 22] })
    (B : Nat) (W : World) (ao : Option Addr) (cap : Nat) (xs bs : List UInt8) (cs : Array Value) (hcs : cs = (bs.map (fun x => Value.int .u8 (iv x))).toArray) (hs : a.eval sl = .slice ao xs.length cap) (hrow : RowOf encU 1 5 B ao cap xs W) (g : Nat) (ty : TypeId) (hnew : W.heap[g]? = some (.cells cs ty (0, 0)))
    (hx : a.eval x = .slice (some ⟨g, 0, none⟩) bs.length bs.length) (h1 : 1 ≤ bs.length) (hl : xs.length + bs.length ≤ 1000000) (hB : B ≤ W.heap.size)
    (h : ∀ ao' cap' w', RowOf encU 1 5 B ao' cap' (xs ++ bs) w' → Only (fun q => B ≤ q) W w' → K (a.put o.dst (.slice ao' (xs.length + bs.length) cap')) w') :
    if Region.wanted o (yielded ops a.tmps) = true then Oper.wp Tryd.prog o a W K Q else F := by
  obtain ⟨i0, hinf, hz0, hz1, hz2⟩ := info_parts infoU
  have hlc : (bs.flatMap encU).length = bs.length * 1 := by rw [flatU_len]; omega
  have hcl : (bs.flatMap encU).toArray = cs := by rw [hcs, flat_bytes]; rfl
  refine step_append_lies W hgd sl x 22 ho B 5 i0 (.int .u8 0) 1 1 Tryd.underlying22 hinf hz0 hz1 hz2 rfl (by decide) (.slice ao xs.length cap) xs.length (xs.flatMap encU) hs hrow ⟨g, 0, none⟩ bs.length bs.length (bs.flatMap encU) hx hlc (fun j u hu => World.news_of_block (cs := cs) hnew j u (by rw [← hcl]; simpa using hu))
    (flatU_one bs) h1 (by unfold maxLen; omega) (by omega) hB W.heap.size rfl ?_
  intro g' cap' w' hown' hgrow hat _
  have hown2 : RowOf encU 1 5 B (some ⟨g', 0, none⟩) cap' (xs ++ bs) w' := by
    unfold RowOf
    rw [List.length_append, List.flatMap_append]
    exact hown'
  refine h _ cap' w' hown2 ?_
  refine (Only.grown hgrow).mono ?_
  intro k _ hk
  cases ao with
  | none => simp [Value.ownBlock] at hk
  | some g0 =>
    have h2 : k = g0.block := by simpa [Value.ownBlock] using hk
    rw [h2]
    exact (hrow.head g0 rfl).2.1
theorem index_hex (k : IntKind) (d : Nat) (hd : d < 16) (w : World) : (Instr.index 9 (.string ⟨#[48, 49, 50, 51, 52, 53, 54, 55, 56, 57, 97, 98, 99, 100, 101, 102]⟩) (.int .u8 d)).run Tryd.prog w = .ok (.int .u8 (iv (digT d))) w := by
  obtain rfl | rfl | rfl | rfl | rfl | rfl | rfl | rfl | rfl | rfl | rfl | rfl | rfl | rfl | rfl | rfl : d = 0 ∨ d = 1 ∨ d = 2 ∨ d = 3 ∨ d = 4 ∨ d = 5 ∨ d = 6 ∨ d = 7 ∨ d = 8 ∨ d = 9 ∨ d = 10 ∨ d = 11 ∨ d = 12 ∨ d = 13 ∨ d = 14 ∨ d = 15 := by omega
  all_goals kernel_rfl
theorem row_quote (w : World) : RowOf encU 1 5 w.heap.size (some ⟨w.heap.size, 0, none⟩) 1 [39] (w.alloc (.cells #[.int .u8 39] 5)) := by
  have h := World.ownsRow_lit (base := w.heap.size) (e := 5) (size := 1) w #[.int .u8 39] 1 (Nat.le_refl _) (by unfold maxLen; omega) rfl
  unfold RowOf
  exact h
set_option maxRecDepth 100000 in
set_option maxHeartbeats 8000000 in
theorem rquote_any (l : List UInt8) (w : World) (hl : l.length ≤ 1000) : Calls Tryd.prog 12 #[.string (bstr l)] w fun e w' => e = .returned (.string (bstr (quoteT l))) ∧ Only (fun _ => False) w w' := by
  have HP := Lib.hid (rplain_any l w (by omega))
  have HIX : Hid (∀ (j : Nat) (x : UInt8), l[j]? = some x → ∀ w : World, (Instr.index 9 (.string (bstr l)) (.int .i64 j)).run Tryd.prog w = .ok (.int .u8 (iv x)) w) := Lib.hid (fun j x h w => index_bstr l j x h w)
  have hsz : (bstr l).size = l.length := rfl
  have HQT : Hid (quoteT l = if plainB (bstr l) = true then l else 39 :: (l.flatMap escB ++ [39])) := Lib.hid rfl
  have HFL : Hid (∀ j, (39 :: (l.take j).flatMap escB).length ≤ 5001) := Lib.hid (fun j => by have := flat_len5 (l.take j); rw [List.length_take] at this; rw [List.length_cons]; omega)
  have HSB := Lib.hid (rfl : bstr l = bstr l)
  generalize hS : bstr l = S at *
  have HS := Lib.hid hS
  clear hS HSB
  cases hpl : plainB S with
  | true =>
    rw [hpl] at HP
    have HQ : Hid (quoteT l = l) := Lib.hid (by rw [HQT.out, if_pos hpl])
    clear hpl
    go_enter Tryd.func12, Tryd.ntmps12
    go_wp2_with fail
    refine HP.out.mono ?_
    rintro e w1 ⟨rfl, rfl⟩
    go_wp2_with fail
    go_ret
    exact ⟨by rw [HQ.out, HS.out]; rfl, Only.refl _ _⟩
  | false =>
    rw [hpl] at HP
    have HQ : Hid (quoteT l = 39 :: (l.flatMap escB ++ [39])) := Lib.hid (by rw [HQT.out, if_neg (by rw [hpl]; decide)])
    have HRQ := Lib.hid (row_quote w)
    have HOQ : Hid (Only (fun q => w.heap.size ≤ q) w (w.alloc (.cells #[.int .u8 39] 5))) := Lib.hid (Only.alloc _ _ _)
    clear hpl HQT
    go_enter Tryd.func12, Tryd.ntmps12
    go_wp2_with fail
    refine HP.out.mono ?_
    rintro e w1 ⟨rfl, rfl⟩
    go_wp2_with fail
    go_loopw [3, 4] (fun tx c wr => ∃ (j : Nat) (acc : List UInt8) (ao : Option Addr) (ac : Nat), c = .int .i64 j ∧ j ≤ l.length ∧ tx = .slice ao acc.length ac ∧ Hid (acc = 39 :: (l.take j).flatMap escB ∧ RowOf encU 1 5 w1.heap.size ao ac acc wr ∧ Only (fun q => w1.heap.size ≤ q) w1 wr)) (fun _ c _ => l.length - (intOf c).toNat)
    case atStart => exact ⟨0, [39], _, 1, rfl, by omega, rfl, Lib.hid ⟨by simp, HRQ.out, HOQ.out⟩⟩
    case round =>
      obtain ⟨j, acc, ao, ac, rfl, hj, rfl, hI⟩ := hrel
      have HACC : Hid (acc.length ≤ 5001) := Lib.hid (by rw [hI.out.1]; exact HFL.out j)
      have HROW := Lib.hid hI.out.2
      by_cases hlt : j < l.length
      · obtain ⟨x, hx⟩ : ∃ x, l[j]? = some x := ⟨_, List.getElem?_eq_getElem hlt⟩
        have hix := HIX.out j x hx
        have p1 : (j : Int) < (l.length : Int) := by omega
        have HNX : Hid (acc ++ escB x = 39 :: (l.take (j + 1)).flatMap escB) := Lib.hid (by
          rw [hI.out.1, List.take_add_one, hx, List.flatMap_append]
          simp)
        have h0 := iv_pos x
        have h256 := iv_lt x
        clear hI hx
        cases e39 : (iv x == 39) with
        | true =>
          have HE : Hid (escB x = [92, x]) := Lib.hid (by
            have h1 := byte_all (fun x => !(iv x == 39) || (escB x == [92, x])) (by kernel_rfl) x
            simp only [e39, Bool.not_true, Bool.false_or] at h1
            exact eq_of_beq h1)
          go_wp2_with (first | (at_builtin; apply Classical.byContradiction; intro hstop) | fail)
          apply hstop
          clear hstop
          refine wp_append_lit rfl (.tmp 30) (.tmp 32) rfl w1.heap.size ao ac acc [92, x] _ (by first | rfl | simp [iv]) rfl HROW.out.1 rfl (by have := HACC.out; simp; omega) HROW.out.2.size ?_
          intro ao' ac' w6 hrow6 ho6
          have HR6 := Lib.hid (And.intro hrow6 (HROW.out.2.same ho6))
          have HLEN6 : Hid ((acc ++ [92, x]).length = acc.length + ([92, x] : List UInt8).length) := Lib.hid List.length_append
          have HNA : Hid (acc ++ [92, x] = 39 :: (l.take (j + 1)).flatMap escB) := Lib.hid (by rw [← HE.out]; exact HNX.out)
          clear hrow6 ho6 HROW
          go_wp2_with fail
          go_roundw
          case rel => exact ⟨j + 1, acc ++ [92, x], ao', ac', by go_num, by omega, (by first | rfl | (rw [HLEN6.out]; rfl)), Lib.hid ⟨HNA.out, HR6.out.1, HR6.out.2⟩⟩
          case measure => simp [intOf]; omega
        | false =>
          cases e92 : (iv x == 92) with
          | true =>
            have HE : Hid (escB x = [92, x]) := Lib.hid (by
              have h1 := byte_all (fun x => !(iv x == 92) || (escB x == [92, x])) (by kernel_rfl) x
              simp only [e92, Bool.not_true, Bool.false_or] at h1
              exact eq_of_beq h1)
            go_wp2_with (first | (at_builtin; apply Classical.byContradiction; intro hstop) | fail)
            apply hstop
            clear hstop
            refine wp_append_lit rfl (.tmp 30) (.tmp 32) rfl w1.heap.size ao ac acc [92, x] _ (by first | rfl | simp [iv]) rfl HROW.out.1 rfl (by have := HACC.out; simp; omega) HROW.out.2.size ?_
            intro ao' ac' w6 hrow6 ho6
            have HR6 := Lib.hid (And.intro hrow6 (HROW.out.2.same ho6))
            have HLEN6 : Hid ((acc ++ [92, x]).length = acc.length + ([92, x] : List UInt8).length) := Lib.hid List.length_append
            have HNA : Hid (acc ++ [92, x] = 39 :: (l.take (j + 1)).flatMap escB) := Lib.hid (by rw [← HE.out]; exact HNX.out)
            clear hrow6 ho6 HROW
            go_wp2_with fail
            go_roundw
            case rel => exact ⟨j + 1, acc ++ [92, x], ao', ac', by go_num, by omega, (by first | rfl | (rw [HLEN6.out]; rfl)), Lib.hid ⟨HNA.out, HR6.out.1, HR6.out.2⟩⟩
            case measure => simp [intOf]; omega
          | false =>
            cases e10 : (iv x == 10) with
            | true =>
              have HE : Hid (escB x = [92, 110]) := Lib.hid (by
                have h1 := byte_all (fun x => !(iv x == 10) || (escB x == [92, 110])) (by kernel_rfl) x
                simp only [e10, Bool.not_true, Bool.false_or] at h1
                exact eq_of_beq h1)
              go_wp2_with (first | (at_builtin; apply Classical.byContradiction; intro hstop) | fail)
              apply hstop
              clear hstop
              refine wp_append_lit rfl (.tmp 37) (.tmp 38) rfl w1.heap.size ao ac acc [92, 110] _ (by first | rfl | simp [iv]) rfl HROW.out.1 rfl (by have := HACC.out; simp; omega) HROW.out.2.size ?_
              intro ao' ac' w6 hrow6 ho6
              have HR6 := Lib.hid (And.intro hrow6 (HROW.out.2.same ho6))
              have HLEN6 : Hid ((acc ++ [92, 110]).length = acc.length + ([92, 110] : List UInt8).length) := Lib.hid List.length_append
              have HNA : Hid (acc ++ [92, 110] = 39 :: (l.take (j + 1)).flatMap escB) := Lib.hid (by rw [← HE.out]; exact HNX.out)
              clear hrow6 ho6 HROW
              go_wp2_with fail
              go_roundw
              case rel => exact ⟨j + 1, acc ++ [92, 110], ao', ac', by go_num, by omega, (by first | rfl | (rw [HLEN6.out]; rfl)), Lib.hid ⟨HNA.out, HR6.out.1, HR6.out.2⟩⟩
              case measure => simp [intOf]; omega
            | false =>
              cases e9 : (iv x == 9) with
              | true =>
                have HE : Hid (escB x = [92, 116]) := Lib.hid (by
                  have h1 := byte_all (fun x => !(iv x == 9) || (escB x == [92, 116])) (by kernel_rfl) x
                  simp only [e9, Bool.not_true, Bool.false_or] at h1
                  exact eq_of_beq h1)
                go_wp2_with (first | (at_builtin; apply Classical.byContradiction; intro hstop) | fail)
                apply hstop
                clear hstop
                refine wp_append_lit rfl (.tmp 43) (.tmp 44) rfl w1.heap.size ao ac acc [92, 116] _ (by first | rfl | simp [iv]) rfl HROW.out.1 rfl (by have := HACC.out; simp; omega) HROW.out.2.size ?_
                intro ao' ac' w6 hrow6 ho6
                have HR6 := Lib.hid (And.intro hrow6 (HROW.out.2.same ho6))
                have HLEN6 : Hid ((acc ++ [92, 116]).length = acc.length + ([92, 116] : List UInt8).length) := Lib.hid List.length_append
                have HNA : Hid (acc ++ [92, 116] = 39 :: (l.take (j + 1)).flatMap escB) := Lib.hid (by rw [← HE.out]; exact HNX.out)
                clear hrow6 ho6 HROW
                go_wp2_with fail
                go_roundw
                case rel => exact ⟨j + 1, acc ++ [92, 116], ao', ac', by go_num, by omega, (by first | rfl | (rw [HLEN6.out]; rfl)), Lib.hid ⟨HNA.out, HR6.out.1, HR6.out.2⟩⟩
                case measure => simp [intOf]; omega
              | false =>
                by_cases g16 : 16 ≤ iv x
                · by_cases hct : iv x < 32 ∨ iv x = 127
                  · have HE : Hid (escB x = [92, 120, digT (x.toNat / 16), digT (x.toNat % 16), 92]) := Lib.hid (by
                      have h1 := byte_all (fun x => !(decide (16 ≤ iv x) && (decide (iv x < 32) || decide (iv x = 127))) || (escB x == [92, 120, digT (x.toNat / 16), digT (x.toNat % 16), 92])) (by kernel_rfl) x
                      rw [decide_eq_true g16] at h1
                      have h2 : (decide (iv x < 32) || decide (iv x = 127)) = true := by rw [Bool.or_eq_true, decide_eq_true_eq, decide_eq_true_eq]; exact hct
                      rw [h2] at h1
                      simpa using h1)
                    have hn16 : x.toNat / 16 < 16 := by have := UInt8.toNat_lt x; omega
                    have hdv : iv x / 16 = ((x.toNat / 16 : Nat) : Int) := by unfold iv; omega
                    have hdv2 : (iv x).tdiv 16 = ((x.toNat / 16 : Nat) : Int) := by rw [Int.tdiv_eq_ediv_of_nonneg h0]; exact hdv
                    have hmd : iv x % 16 = ((x.toNat % 16 : Nat) : Int) := by unfold iv; omega
                    have hmd2 : (iv x).tmod 16 = ((x.toNat % 16 : Nat) : Int) := by rw [Int.tmod_eq_emod_of_nonneg h0]; exact hmd
                    have hi1 : ∀ w : World, (Instr.index 9 (.string ⟨#[48, 49, 50, 51, 52, 53, 54, 55, 56, 57, 97, 98, 99, 100, 101, 102]⟩) (.int .u8 (iv x / 16))).run Tryd.prog w = .ok (.int .u8 (iv (digT (x.toNat / 16)))) w := fun w => by rw [hdv]; exact index_hex .u8 _ hn16 w
                    have hi2 : ∀ w : World, (Instr.index 9 (.string ⟨#[48, 49, 50, 51, 52, 53, 54, 55, 56, 57, 97, 98, 99, 100, 101, 102]⟩) (.int .u8 (iv x % 16))).run Tryd.prog w = .ok (.int .u8 (iv (digT (x.toNat % 16)))) w := fun w => by rw [hmd]; exact index_hex .u8 _ (Nat.mod_lt _ (by decide)) w
                    have hi3 : ∀ w : World, (Instr.index 9 (.string ⟨#[48, 49, 50, 51, 52, 53, 54, 55, 56, 57, 97, 98, 99, 100, 101, 102]⟩) (.int .u8 ((iv x).tdiv 16))).run Tryd.prog w = .ok (.int .u8 (iv (digT (x.toNat / 16)))) w := fun w => by rw [hdv2]; exact index_hex .u8 _ hn16 w
                    have hi4 : ∀ w : World, (Instr.index 9 (.string ⟨#[48, 49, 50, 51, 52, 53, 54, 55, 56, 57, 97, 98, 99, 100, 101, 102]⟩) (.int .u8 ((iv x).tmod 16))).run Tryd.prog w = .ok (.int .u8 (iv (digT (x.toNat % 16)))) w := fun w => by rw [hmd2]; exact index_hex .u8 _ (Nat.mod_lt _ (by decide)) w
                    have hwq : IntKind.u8.wrap (iv x / 16) = iv x / 16 := by simp [IntKind.wrap, IntKind.bits, IntKind.signed]; omega
                    have hwq2 : IntKind.u8.wrap ((iv x).tdiv 16) = (iv x).tdiv 16 := by rw [hdv2]; simp [IntKind.wrap, IntKind.bits, IntKind.signed]; omega
                    clear hdv hdv2 hmd hmd2 hn16
                    generalize digT (x.toNat / 16) = d1 at *
                    generalize digT (x.toNat % 16) = d2 at *
                    have HRW : Hid (∀ W, Only (fun _ => False) wr W → RowOf encU 1 5 w1.heap.size ao ac acc W ∧ Only (fun q => w1.heap.size ≤ q) w1 W) := Lib.hid (fun W ho => ⟨RowOf.only HROW.out.1 ho (fun _ _ e => e), HROW.out.2.same (ho.no _)⟩)
                    rcases hct with h32 | h127
                    · have hc1 : iv x < 32 := h32
                      clear h32
                      go_wp2_with fail
                      go_region_law
                        ((refine step_append_bytes (by rfl) (.tmp 57) (.tmp 64) (by rfl) w1.heap.size _ ao ac acc [92, 120, d1, d2, 92] _ (by rfl) (by rfl) (HRW.out _ (by first | exact Only.alloc _ _ _ | exact (Only.drew _ _).same (Only.alloc _ _ _) | exact (Only.alloc _ _ _).same (Only.drew _ _))).1 _ _ (by first | exact heap_alloc_new _ _ | exact heap_alloc_new wr _) (by rfl) (by simp) (by have := HACC.out; simp; omega) (HRW.out _ (by first | exact Only.alloc _ _ _ | exact (Only.drew _ _).same (Only.alloc _ _ _) | exact (Only.alloc _ _ _).same (Only.drew _ _))).2.size ?_
                          intro ao' ac' w6 hrow6 ho6
                          have HR6 := Lib.hid (And.intro hrow6 ((HRW.out _ (by first | exact Only.alloc _ _ _ | exact (Only.drew _ _).same (Only.alloc _ _ _) | exact (Only.alloc _ _ _).same (Only.drew _ _))).2.same ho6))
                          clear hrow6 ho6))
                      all_goals
                        have HLEN6 : Hid ((acc ++ [92, 120, d1, d2, 92]).length = acc.length + ([92, 120, d1, d2, 92] : List UInt8).length) := Lib.hid List.length_append
                        have HNA : Hid (acc ++ [92, 120, d1, d2, 92] = 39 :: (l.take (j + 1)).flatMap escB) := Lib.hid (by rw [← HE.out]; exact HNX.out)
                        clear HROW HRW
                        go_wp2_with fail
                        go_roundw
                        case rel => exact ⟨j + 1, acc ++ [92, 120, d1, d2, 92], ao', ac', by go_num, by omega, (by first | rfl | (rw [HLEN6.out]; rfl)), Lib.hid ⟨HNA.out, HR6.out.1, HR6.out.2⟩⟩
                        case measure => simp [intOf]; omega
                    · have hc1 : ¬ iv x < 32 := by omega
                      have hc2 : (iv x == 127) = true := by rw [beq_iff_eq]; exact h127
                      clear h127
                      go_wp2_with fail
                      go_region_law
                        ((refine step_append_bytes (by rfl) (.tmp 57) (.tmp 64) (by rfl) w1.heap.size _ ao ac acc [92, 120, d1, d2, 92] _ (by rfl) (by rfl) (HRW.out _ (by first | exact Only.alloc _ _ _ | exact (Only.drew _ _).same (Only.alloc _ _ _) | exact (Only.alloc _ _ _).same (Only.drew _ _))).1 _ _ (by first | exact heap_alloc_new _ _ | exact heap_alloc_new wr _) (by rfl) (by simp) (by have := HACC.out; simp; omega) (HRW.out _ (by first | exact Only.alloc _ _ _ | exact (Only.drew _ _).same (Only.alloc _ _ _) | exact (Only.alloc _ _ _).same (Only.drew _ _))).2.size ?_
                          intro ao' ac' w6 hrow6 ho6
                          have HR6 := Lib.hid (And.intro hrow6 ((HRW.out _ (by first | exact Only.alloc _ _ _ | exact (Only.drew _ _).same (Only.alloc _ _ _) | exact (Only.alloc _ _ _).same (Only.drew _ _))).2.same ho6))
                          clear hrow6 ho6))
                      all_goals
                        have HLEN6 : Hid ((acc ++ [92, 120, d1, d2, 92]).length = acc.length + ([92, 120, d1, d2, 92] : List UInt8).length) := Lib.hid List.length_append
                        have HNA : Hid (acc ++ [92, 120, d1, d2, 92] = 39 :: (l.take (j + 1)).flatMap escB) := Lib.hid (by rw [← HE.out]; exact HNX.out)
                        clear HROW HRW
                        go_wp2_with fail
                        go_roundw
                        case rel => exact ⟨j + 1, acc ++ [92, 120, d1, d2, 92], ao', ac', by go_num, by omega, (by first | rfl | (rw [HLEN6.out]; rfl)), Lib.hid ⟨HNA.out, HR6.out.1, HR6.out.2⟩⟩
                        case measure => simp [intOf]; omega
                  · have hc1 : ¬ iv x < 32 := fun h => hct (.inl h)
                    have hc2 : (iv x == 127) = false := by rw [beq_eq_false_iff_ne]; exact fun h => hct (.inr h)
                    have hc3 : ¬ iv x < 16 := by omega
                    have HE : Hid (escB x = [x]) := Lib.hid (by
                      have h1 := byte_all (fun x => (iv x == 39) || (iv x == 92) || decide (iv x < 32) || (iv x == 127) || (escB x == [x])) (by kernel_rfl) x
                      rw [e39, e92, hc2, decide_eq_false hc1] at h1
                      simpa using h1)
                    clear hct
                    go_wp2_with (first | (at_builtin; apply Classical.byContradiction; intro hstop) | fail)
                    apply hstop
                    clear hstop
                    refine wp_append_lit rfl (.tmp 19) (.tmp 21) rfl w1.heap.size ao ac acc [x] _ (by first | rfl | simp [iv]) rfl HROW.out.1 rfl (by have := HACC.out; simp; omega) HROW.out.2.size ?_
                    intro ao' ac' w6 hrow6 ho6
                    have HR6 := Lib.hid (And.intro hrow6 (HROW.out.2.same ho6))
                    have HLEN6 : Hid ((acc ++ [x]).length = acc.length + ([x] : List UInt8).length) := Lib.hid List.length_append
                    have HNA : Hid (acc ++ [x] = 39 :: (l.take (j + 1)).flatMap escB) := Lib.hid (by rw [← HE.out]; exact HNX.out)
                    clear hrow6 ho6 HROW
                    go_wp2_with fail
                    go_roundw
                    case rel => exact ⟨j + 1, acc ++ [x], ao', ac', by go_num, by omega, (by first | rfl | (rw [HLEN6.out]; rfl)), Lib.hid ⟨HNA.out, HR6.out.1, HR6.out.2⟩⟩
                    case measure => simp [intOf]; omega
                · have hc3 : iv x < 16 := by omega
                  have hc4 : (iv x == 127) = false := by rw [beq_eq_false_iff_ne]; omega
                  have HE : Hid (escB x = [92, 120, digT x.toNat, 92]) := Lib.hid (by
                    have h1 := byte_all (fun x => (iv x == 10) || (iv x == 9) || decide (16 ≤ iv x) || (escB x == [92, 120, digT x.toNat, 92])) (by kernel_rfl) x
                    rw [e10, e9, decide_eq_false g16] at h1
                    simpa using h1)
                  have hi1 : ∀ w : World, (Instr.index 9 (.string ⟨#[48, 49, 50, 51, 52, 53, 54, 55, 56, 57, 97, 98, 99, 100, 101, 102]⟩) (.int .u8 (iv x))).run Tryd.prog w = .ok (.int .u8 (iv (digT x.toNat))) w := fun w => index_hex .u8 _ (by unfold iv at hc3; omega) w
                  generalize digT x.toNat = d1 at *
                  go_wp2_with (first | (at_builtin; apply Classical.byContradiction; intro hstop) | fail)
                  apply hstop
                  clear hstop
                  refine wp_append_lit rfl (.tmp 69) (.tmp 72) rfl w1.heap.size ao ac acc [92, 120, d1, 92] _ (by first | rfl | simp [iv]) rfl HROW.out.1 rfl (by have := HACC.out; simp; omega) HROW.out.2.size ?_
                  intro ao' ac' w6 hrow6 ho6
                  have HR6 := Lib.hid (And.intro hrow6 (HROW.out.2.same ho6))
                  have HLEN6 : Hid ((acc ++ [92, 120, d1, 92]).length = acc.length + ([92, 120, d1, 92] : List UInt8).length) := Lib.hid List.length_append
                  have HNA : Hid (acc ++ [92, 120, d1, 92] = 39 :: (l.take (j + 1)).flatMap escB) := Lib.hid (by rw [← HE.out]; exact HNX.out)
                  clear hrow6 ho6 HROW
                  go_wp2_with fail
                  go_roundw
                  case rel => exact ⟨j + 1, acc ++ [92, 120, d1, 92], ao', ac', by go_num, by omega, (by first | rfl | (rw [HLEN6.out]; rfl)), Lib.hid ⟨HNA.out, HR6.out.1, HR6.out.2⟩⟩
                  case measure => simp [intOf]; omega
      · have HFIN : Hid (acc = 39 :: l.flatMap escB) := Lib.hid (by rw [hI.out.1, List.take_of_length_le (by omega)])
        obtain rfl : j = l.length := by omega
        clear hI
        go_wp2_with (first | (at_builtin; apply Classical.byContradiction; intro hstop) | fail)
        apply hstop
        clear hstop
        refine wp_append_lit rfl (.tmp 74) (.tmp 75) rfl w1.heap.size ao ac acc [39] _ (by first | rfl | simp [iv]) rfl HROW.out.1 rfl (by have := HACC.out; simp; omega) HROW.out.2.size ?_
        intro ao' ac' w6 hrow6 ho6
        have hcv := run_row hrow6
        have HO6 := Lib.hid (Only.cut (Only.refl (fun _ => False) w1) (HROW.out.2.same ho6) (fun q e => e))
        have HAC : Hid (bstr (acc ++ [39]) = bstr (quoteT l)) := Lib.hid (by rw [HQ.out, HFIN.out]; rfl)
        generalize acc ++ [(39 : UInt8)] = acc2 at *
        clear hrow6 ho6 HROW
        go_wp2_with fail
        go_ret
        exact ⟨by rw [← HAC.out]; rfl, HO6.out⟩
end Go.Proofs.YtogccafnfpmgmaaDoor.toks
