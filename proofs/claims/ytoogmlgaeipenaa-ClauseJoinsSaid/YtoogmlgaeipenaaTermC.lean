
/- Terms: each variable is visited, and what follows: 7 texts in one. -/
import Derived.Test.YtoogmlgaeipenaaTermB
import Derived.Outline
import Derived.Laws.ResultCell
/- Terms: each variable is visited. -/
namespace Go.Proofs.Ytoogmlgaeipenaa.terms
set_option maxRecDepth 100000
section
open Go.RowKit Go.Proofs.Ytoogmlgaeipenaa.own Go.Maps
section
variable {σ : Type}
mutual
def eachF (nxt : σ → Int → σ) : T → σ → σ | .mk k n _ l, st => eachL nxt l (if k = 1 then nxt st n else st)
def eachL (nxt : σ → Int → σ) : List T → σ → σ | [], st => st | x :: r, st => eachL nxt r (eachF nxt x st)
end
variable {nxt : σ → Int → σ}
theorem eachL_append (a b : List T) (st : σ) : eachL nxt (a ++ b) st = eachL nxt b (eachL nxt a st) := by
  induction a generalizing st with
  | nil => rfl
  | cons x r ih => simp only [List.cons_append, eachL, ih]
theorem eachL_step {l : List T} {i : Nat} {x : T} (h : l[i]? = some x) (st : σ) : eachL nxt (l.take (i + 1)) st = eachF nxt x (eachL nxt (l.take i) st) := by
  rw [take_snoc h, eachL_append]
  rfl
/-- What a visitor leaves. -/
def VPost (I : σ → (Nat → Prop) → World → Prop) (w : World) (S : Nat → Prop) (st' : σ) (e : Ending) (w' : World) : Prop := ∃ S', e = .returned (.tuple #[]) ∧ I st' S' w' ∧ Only S w w' ∧ ∀ k, S' k → Grew S w w' k
structure Visit (K : Nat) (caps : Array Value) (good : Int → Prop) (I : σ → (Nat → Prop) → World → Prop) (nxt : σ → Int → σ) : Prop where
  ent : ∀ args w, (callFunc K args).run Try.prog w = .ok (.enter K args) w
  call : ∀ st S n w, I st S w → good n → Calls Try.prog K (#[.int .i64 n] ++ caps) w (VPost I w S (nxt st n))
  stays : ∀ st S S'' w w', I st S w → Only S'' w w' → (∀ k, S k → ¬ S'' k) → I st S w'
  lt : ∀ st S w, I st S w → ∀ k, S k → k < w.heap.size
variable {K : Nat} {caps : Array Value} {good : Int → Prop} {I : σ → (Nat → Prop) → World → Prop}
set_option maxRecDepth 100000 in
set_option maxHeartbeats 4000000 in
theorem each_any (hP : Visit K caps good I nxt) (t : T) : ∀ (st : σ) (S : Nat → Prop) (w : World) (ao : Option Addr) (cap B : Nat), Row (· < B) w ao t.l → (∀ k, S k → B ≤ k) → B ≤ w.heap.size → t.Sane → I st S w → t.allv good → Calls Try.prog 153 #[tv t ao cap, .func (.func K) #[] caps] w (VPost I w S (eachF nxt t st)) := by
  have hent := hP.ent
  induction t using T.ind with
  | h k n s l ih =>
    intro st S w ao cap B hl hSB hB hs hI hg
    have HL := Lib.hid hl
    have HSB := Lib.hid hSB
    have HI := Lib.hid ih
    have HST := Lib.hid hI
    have HG := Lib.hid hg
    have hlen := hs.l
    unfold maxLen at hlen
    simp only [T.l] at hlen
    generalize hr : eachF nxt (T.mk k n s l) st = r
    have HR := Lib.hid hr
    have HLOOP : Hid (∀ (st1 : σ) (S1 : Nat → Prop) (w1 : World) (bx : Nat), w.heap.size ≤ bx → I st1 S1 w1 → (∀ q, S1 q → B ≤ q) → ¬ S1 bx → True) := Lib.hid (fun _ _ _ _ _ _ _ _ => trivial)
    show Calls Try.prog 153 #[.agg #[.int .i64 k, .int .i64 n, .string s, .slice ao l.length cap], .func (.func K) #[] caps] w (VPost I w S r)
    clear hl ih hs hI hg hr hSB HLOOP
    have hsize1 : w.heap.size + 1 = (w.alloc (.cells #[.int .i64 k, .int .i64 n, .string s, .slice ao l.length cap] 24)).heap.size := by simp
    have HNS : Hid (¬ S w.heap.size) := Lib.hid (fun e => by have := hP.lt _ _ _ HST.out _ e; omega)
    have HSZ := Lib.hid hsize1
    have HBX := Lib.hid (BoxAt.new w k n s ao l.length cap)
    have HO1 : Hid (Only (fun _ => False) w (w.alloc (.cells #[.int .i64 k, .int .i64 n, .string s, .slice ao l.length cap] 24))) := Lib.hid (Only.alloc _ _ _)
    have HI1 := Lib.hid (hP.stays _ _ _ _ _ HST.out HO1.out (fun _ _ e => e))
    have HSAL : Hid (∀ x, x ∈ l → x.allv good) := Lib.hid (fun x hx => allvs_mem HG.out.2 hx)
    unfold boxW at HBX
    clear hsize1
    by_cases hk : k = 1
    · subst hk
      go_enter Try.func153, Try.ntmps153
      go_wp2_with fail
      generalize w.alloc (.cells #[.int .i64 1, .int .i64 n, .string s, .slice ao l.length cap] 24) = w1 at *
      refine (hP.call st S n w1 HI1.out (HG.out.1 rfl)).mono ?_
      rintro e w2 ⟨S', rfl, hI2, ho2, hS2⟩
      have HR2 : Hid (r = eachL nxt l (nxt st n)) := Lib.hid (by rw [← HR.out]; unfold eachF; rw [if_pos rfl])
      have HE : Hid (I (nxt st n) S' w2 ∧ Only S w w2 ∧ (∀ q, S' q → Grew S w w2 q) ∧ ¬ S' w.heap.size ∧ BoxAt w.heap.size 1 n s ao l.length cap w2) := Lib.hid ⟨hI2, (HO1.out.no S).same ho2, fun q hq => by
        rcases hS2 q hq with e | e
        · exact .inl e
        · exact .inr ⟨by have := HO1.out.size; omega, e.2⟩, fun e => by
        rcases hS2 _ e with e | e
        · exact HNS.out e
        · have := HSZ.out; omega, HBX.out.only ho2 HNS.out⟩
      generalize nxt st n = st1 at *
      have d3 := HE.out.2.2.2.2.cells.2.2.2
      generalize hbx : w.heap.size = bx at *
      have HBX2 := Lib.hid hbx
      clear hI2 ho2 hS2 hbx
      go_wp2_with fail

      go_loopw [16] (fun i wr => ∃ j : Nat, i = .int .i64 j ∧ j ≤ l.length ∧ ∃ S', Hid (I (eachL nxt (l.take j) st1) S' wr ∧ Only S w wr ∧ (∀ q, S' q → Grew S w wr q))) (fun i _ => l.length - (intOf i).toNat)
      case atStart => exact ⟨0, rfl, by omega, _, Lib.hid ⟨HE.out.1, HE.out.2.1, HE.out.2.2.1⟩⟩
      case round =>
        obtain ⟨j, rfl, hj, S', hE⟩ := hrel
        clear HE
        by_cases hlt : j < l.length
        · obtain ⟨x, hx⟩ : ∃ x, l[j]? = some x := ⟨_, List.getElem?_eq_getElem hlt⟩
          obtain ⟨b, off, ro, rc, rfl, hb, c0, c1, c2, c3, hsane, hsub⟩ := (HL.out.only hE.out.2.1 (fun q hq => by have := HBX2.out; omega) (fun q hq e => by have := HSB.out q e; omega)).at hx
          have hmem := List.mem_of_getElem? hx
          have HX := Lib.hid (HI.out x hmem)
          have HXG := Lib.hid (HSAL.out x hmem)
          have HSA := Lib.hid hsane
          have HSUB := Lib.hid hsub
          have HGX := Lib.hid hx
          clear hx hsane hsub hmem
          go_wp2_with fail
          have HOA : Hid (Only (fun _ => False) wr (wr.alloc (.cells #[.int .i64 x.k, .int .i64 x.n, .string x.s, .slice ro x.l.length rc] 24))) := Lib.hid (Only.alloc _ _ _)
          generalize wr.alloc (.cells #[.int .i64 x.k, .int .i64 x.n, .string x.s, .slice ro x.l.length rc] 24) = w5 at *
          have hwr := hE.out.2.1.size
          refine (HX.out _ S' w5 ro rc B (HSUB.out.only HOA.out (fun q hq => by have := HBX2.out; omega) (fun _ _ e => e)) (fun q hq => by
            rcases hE.out.2.2 q hq with e | e
            · exact HSB.out q e
            · have := HBX2.out; omega) (by have := HOA.out.size; have := HBX2.out; omega) HSA.out (hP.stays _ _ _ _ _ hE.out.1 HOA.out (fun _ _ e => e)) HXG.out).mono ?_
          rintro e w6 ⟨S'', rfl, hI2, ho2, hS2⟩
          have HE2 : Hid (I (eachL nxt (l.take (j + 1)) st1) S'' w6 ∧ Only S w w6 ∧ (∀ q, S'' q → Grew S w w6 q)) := by
            rw [eachL_step HGX.out]
            refine Lib.hid ⟨hI2, (hE.out.2.1.same (HOA.out.no S)).trans ho2 (fun q hq e => ?_), fun q hq => ?_⟩
            · rcases hE.out.2.2 q e with e | e
              · exact e
              · omega
            · have h5 := HOA.out.size
              have h6 := ho2.size
              rcases hS2 q hq with e | e
              · rcases hE.out.2.2 q e with e | e
                · exact .inl e
                · exact .inr ⟨e.1, by omega⟩
              · exact .inr ⟨by omega, e.2⟩
          clear hI2 ho2 hS2
          go_wp2_with fail
          go_roundw
          case rel => exact ⟨j + 1, by go_num, by omega, _, HE2⟩
          case measure => simp [intOf]; omega
        · obtain rfl : j = l.length := by omega
          go_wp2_with fail
          refine bodyPost_ret (results_none rfl _ _ _) rfl ?_
          have h := hE.out
          rw [List.take_length, ← HR2.out] at h
          exact ⟨S', rfl, h.1, h.2.1, h.2.2⟩
    · have hkb : (k == 1) = false := by simpa using hk
      go_enter Try.func153, Try.ntmps153
      go_wp2_with fail
      generalize w.alloc (.cells #[.int .i64 k, .int .i64 n, .string s, .slice ao l.length cap] 24) = w1 at *
      have HR2 : Hid (r = eachL nxt l st) := Lib.hid (by rw [← HR.out]; unfold eachF; rw [if_neg hk])
      have HE : Hid (I st S w1 ∧ Only S w w1 ∧ (∀ q, S q → Grew S w w1 q) ∧ True ∧ True) := Lib.hid ⟨HI1.out, HO1.out.no S, fun q hq => .inl hq, trivial, trivial⟩
      have d3 := HBX.out.cells.2.2.2
      generalize hst1 : st = st1 at *
      generalize hbx : w.heap.size = bx at *
      have HBX2 := Lib.hid hbx
      clear hbx hst1
      go_wp2_with fail

      go_loopw [16] (fun i wr => ∃ j : Nat, i = .int .i64 j ∧ j ≤ l.length ∧ ∃ S', Hid (I (eachL nxt (l.take j) st1) S' wr ∧ Only S w wr ∧ (∀ q, S' q → Grew S w wr q))) (fun i _ => l.length - (intOf i).toNat)
      case atStart => exact ⟨0, rfl, by omega, _, Lib.hid ⟨HE.out.1, HE.out.2.1, HE.out.2.2.1⟩⟩
      case round =>
        obtain ⟨j, rfl, hj, S', hE⟩ := hrel
        clear HE
        by_cases hlt : j < l.length
        · obtain ⟨x, hx⟩ : ∃ x, l[j]? = some x := ⟨_, List.getElem?_eq_getElem hlt⟩
          obtain ⟨b, off, ro, rc, rfl, hb, c0, c1, c2, c3, hsane, hsub⟩ := (HL.out.only hE.out.2.1 (fun q hq => by have := HBX2.out; omega) (fun q hq e => by have := HSB.out q e; omega)).at hx
          have hmem := List.mem_of_getElem? hx
          have HX := Lib.hid (HI.out x hmem)
          have HXG := Lib.hid (HSAL.out x hmem)
          have HSA := Lib.hid hsane
          have HSUB := Lib.hid hsub
          have HGX := Lib.hid hx
          clear hx hsane hsub hmem
          go_wp2_with fail
          have HOA : Hid (Only (fun _ => False) wr (wr.alloc (.cells #[.int .i64 x.k, .int .i64 x.n, .string x.s, .slice ro x.l.length rc] 24))) := Lib.hid (Only.alloc _ _ _)
          generalize wr.alloc (.cells #[.int .i64 x.k, .int .i64 x.n, .string x.s, .slice ro x.l.length rc] 24) = w5 at *
          have hwr := hE.out.2.1.size
          refine (HX.out _ S' w5 ro rc B (HSUB.out.only HOA.out (fun q hq => by have := HBX2.out; omega) (fun _ _ e => e)) (fun q hq => by
            rcases hE.out.2.2 q hq with e | e
            · exact HSB.out q e
            · have := HBX2.out; omega) (by have := HOA.out.size; have := HBX2.out; omega) HSA.out (hP.stays _ _ _ _ _ hE.out.1 HOA.out (fun _ _ e => e)) HXG.out).mono ?_
          rintro e w6 ⟨S'', rfl, hI2, ho2, hS2⟩
          have HE2 : Hid (I (eachL nxt (l.take (j + 1)) st1) S'' w6 ∧ Only S w w6 ∧ (∀ q, S'' q → Grew S w w6 q)) := by
            rw [eachL_step HGX.out]
            refine Lib.hid ⟨hI2, (hE.out.2.1.same (HOA.out.no S)).trans ho2 (fun q hq e => ?_), fun q hq => ?_⟩
            · rcases hE.out.2.2 q e with e | e
              · exact e
              · omega
            · have h5 := HOA.out.size
              have h6 := ho2.size
              rcases hS2 q hq with e | e
              · rcases hE.out.2.2 q e with e | e
                · exact .inl e
                · exact .inr ⟨e.1, by omega⟩
              · exact .inr ⟨by omega, e.2⟩
          clear hI2 ho2 hS2
          go_wp2_with fail
          go_roundw
          case rel => exact ⟨j + 1, by go_num, by omega, _, HE2⟩
          case measure => simp [intOf]; omega
        · obtain rfl : j = l.length := by omega
          go_wp2_with fail
          refine bodyPost_ret (results_none rfl _ _ _) rfl ?_
          have h := hE.out
          rw [List.take_length, ← HR2.out] at h
          exact ⟨S', rfl, h.1, h.2.1, h.2.2⟩
end
end
end Go.Proofs.Ytoogmlgaeipenaa.terms
/- Terms: Vars, Ground. -/
namespace Go.Proofs.Ytoogmlgaeipenaa.terms
set_option maxRecDepth 100000
section
open Go.RowKit Go.Proofs.Ytoogmlgaeipenaa.own Go.Maps
set_option maxRecDepth 100000 in
theorem vars1_any {sb : Nat} {v l : List Int} {S : Nat → Prop} {w : World} (n : Int) (hn : Fits n) (hm : n ∈ v) (h : RenI sb v l S w) : Calls Try.prog 154 #[.int .i64 n, .pointer (some ⟨sb, 0, none⟩)] w (VPost (RenI sb v) w S (renNxt l n)) := by
  have HN := Lib.hid (number_any n hn hm h)
  clear h hn hm
  go_enter Try.func154, Try.ntmps154
  go_wp2_with fail
  refine HN.out.mono ?_
  rintro e w1 ⟨S', rfl, hI, ho, hS⟩
  have HI := Lib.hid hI
  have HO := Lib.hid ho
  have HS := Lib.hid hS
  clear hI ho hS
  go_wp2_with fail
  refine bodyPost_ret (results_none rfl _ _ _) rfl ?_
  exact ⟨S', rfl, HI.out, HO.out, HS.out⟩
theorem visit_vars (sb : Nat) (v : List Int) : Visit 154 #[.pointer (some ⟨sb, 0, none⟩)] (fun n => n ∈ v ∧ Fits n) (RenI sb v) renNxt where
  ent := fun args w => by rfl
  call := fun st S n w hI hn => vars1_any n hn.2 hn.1 hI
  stays := fun st S S'' w w' hI ho hS => ⟨hI.1.only ho hS, hI.2⟩
  lt := fun st S w hI => hI.1.lt
def varsF (t : T) : List Int := eachF renNxt t []
theorem each_vars (t : T) (w : World) (ao : Option Addr) (cap : Nat) (hl : Lies w ao t.l) (hs : t.Sane) (hr : t.right = true) (hz : t.size ≤ 16777215) (w1 : World) (ho : Only (fun _ => False) w w1) (sb : Nat) (hsb : w.heap.size ≤ sb) (hser : Ser sb [] (· = sb) w1) :
    Calls Try.prog 153 #[tv t ao cap, .func (.func 154) #[] #[.pointer (some ⟨sb, 0, none⟩)]] w1 fun e w' => ∃ S', e = .returned (.tuple #[]) ∧ Ser sb (varsF t) S' w' ∧ (varsF t).length ≤ t.size ∧ Only (· = sb) w1 w' ∧ ∀ k, S' k → w.heap.size ≤ k := by
  have hav : t.allv (fun n => n ∈ t.occ ∧ Fits n) := allv_and t (allv_occ t) (right_allv (p := Fits) (fun n h0 h1 => ⟨by omega, by omega⟩) t hr)
  have hoc := occ_le t
  have hI : RenI sb t.occ [] (· = sb) w1 := ⟨hser, Kept.nil _, by omega⟩
  have hsz := ho.size
  refine (each_any (visit_vars sb t.occ) t [] (· = sb) w1 ao cap w.heap.size (hl.only ho (fun _ e => e) (fun _ _ e => e)) (fun k e => by omega) hsz hs hI hav).mono ?_
  rintro e w' ⟨S', rfl, hI2, ho2, hS⟩
  have := nodup_le hI2.2.1.nodup hI2.2.1.sub
  refine ⟨S', rfl, hI2.1, by have : (varsF t).length ≤ t.occ.length := this; omega, ho2, fun k hk => ?_⟩
  rcases hS k hk with e | e
  · omega
  · omega
set_option maxRecDepth 100000 in
set_option maxHeartbeats 2000000 in
theorem Vars_ok (t : T) (w : World) (ao : Option Addr) (cap : Nat) (hl : Lies w ao t.l) (hs : t.Sane) (hok : t.Ok) :
    Calls Try.prog 133 #[tv t ao cap] w fun e w' => ∃ oo oc, e = .returned (.slice oo (varsF t).length oc) ∧ OrdP oo oc (varsF t) w' ∧ (∀ g, oo = some g → w.heap.size ≤ g.block) ∧ Only (fun _ => False) w w' := by
  have HM := Lib.hid (may_one t w ao cap hl hs hok)
  have HE := Lib.hid (each_vars t w ao cap hl hs hok.right (by have := hok.size; omega))
  have HZ := Lib.hid hok.size
  obtain ⟨k, n, s, l⟩ := t
  generalize varsF (T.mk k n s l) = r at *
  show Calls Try.prog 133 #[.agg #[.int .i64 k, .int .i64 n, .string s, .slice ao l.length cap]] w _
  clear hl hs hok
  go_enter Try.func133, Try.ntmps133
  go_wp2_with fail
  have hb : ((w.alloc (.cells #[.int .i64 k, .int .i64 n, .string s, .slice ao l.length cap] 24)).alloc (.cells #[.int .i64 k, .int .i64 n, .string s, .slice ao l.length cap] 24)).heap[w.heap.size + 1]? = some (.cells #[.int .i64 k, .int .i64 n, .string s, .slice ao l.length cap] 24 (0, 0)) := by
    have := heap_alloc_new (w.alloc (.cells #[.int .i64 k, .int .i64 n, .string s, .slice ao l.length cap] 24)) (.cells #[.int .i64 k, .int .i64 n, .string s, .slice ao l.length cap] 24)
    simpa using this
  have ho : Only (fun _ => False) w ((w.alloc (.cells #[.int .i64 k, .int .i64 n, .string s, .slice ao l.length cap] 24)).alloc (.cells #[.int .i64 k, .int .i64 n, .string s, .slice ao l.length cap] 24)) := (Only.alloc _ _ _).same (Only.alloc _ _ _)
  have hbx : BoxAt w.heap.size k n s ao l.length cap ((w.alloc (.cells #[.int .i64 k, .int .i64 n, .string s, .slice ao l.length cap] 24)).alloc (.cells #[.int .i64 k, .int .i64 n, .string s, .slice ao l.length cap] 24)) := (BoxAt.new w k n s ao l.length cap).later (Only.alloc _ _ _)
  have hsz : w.heap.size + 2 = ((w.alloc (.cells #[.int .i64 k, .int .i64 n, .string s, .slice ao l.length cap] 24)).alloc (.cells #[.int .i64 k, .int .i64 n, .string s, .slice ao l.length cap] 24)).heap.size := by simp
  refine (HM.out _ ho _ hb).mono ?_
  rintro e w1 ⟨rfl, ho1⟩
  have HO := Lib.hid (ho.same ho1)
  have HSZ : Hid (w.heap.size + 2 ≤ w1.heap.size) := Lib.hid (by have := ho1.size; omega)
  have HBX := Lib.hid (hbx.later ho1)
  clear hb ho hbx ho1 hsz
  have hser := Ser.new w1
  have ho2 : Only (fun _ => False) w1 (w1.alloc (.cells #[.map none, .slice none 0 0] 135)) := Only.alloc _ _ _
  obtain ⟨d0, d1, d2, d3⟩ := (HBX.out.later ho2).cells
  have HS0 := Lib.hid hser
  have HO2 := Lib.hid (HO.out.same ho2)
  have HOP := Lib.hid ho2
  clear hser ho2
  go_wp2_with fail
  refine (HE.out _ HO2.out w1.heap.size (by have := HSZ.out; omega) HS0.out).mono ?_
  rintro e w2 ⟨S', rfl, ⟨mo, oo, oc, hc⟩, hlen, ho3, hS⟩
  have HC := Lib.hid hc
  have HO3 : Hid (Only (fun _ => False) w w2) := Lib.hid (Only.cut HO2.out ho3 (fun k e => by have := HSZ.out; omega))
  have HS := Lib.hid hS
  have s1 := cell_of_blk HC.out.blk 1
  simp only [List.getElem?_toArray, List.getElem?_cons_zero, List.getElem?_cons_succ] at s1
  have hlz : r.length ≤ 4096 := by have := HZ.out; omega
  clear hc ho3 hS hlen
  go_wp2_with fail
  go_ret
  exact ⟨oo, oc, rfl, HC.out.row, fun g hg => HS.out _ (HC.out.own.2.2 g hg), HO3.out⟩
/-- Ground: the flag is on until a variable is met. -/
def GrI (gb : Nat) (g : Bool) (S : Nat → Prop) (w : World) : Prop := w.heap[gb]? = some (.cells #[.bool g] 4 (0, 0)) ∧ ∀ k, S k ↔ k = gb
def groundF (t : T) : Bool := eachF (fun _ _ => false) t true
theorem allv_true (t : T) : t.allv (fun _ => True) := allv_mono (fun _ _ => trivial) t (allv_occ t)
end
end Go.Proofs.Ytoogmlgaeipenaa.terms
/- Terms: same. -/
namespace Go.Proofs.Ytoogmlgaeipenaa.terms
set_option maxRecDepth 100000
section
open Go.RowKit Go.Proofs.Ytoogmlgaeipenaa.own Go.Maps
end
end Go.Proofs.Ytoogmlgaeipenaa.terms
/- Terms: Same, Variant. -/
namespace Go.Proofs.Ytoogmlgaeipenaa.terms
set_option maxRecDepth 100000
section
open Go.RowKit Go.Proofs.Ytoogmlgaeipenaa.own Go.Maps
theorem Row.two {w : World} {t u : T} {ao bo : Option Addr} {cap bcap : Nat} (hl : Lies w ao t.l) (hs : t.Sane) (hl' : Lies w bo u.l) (hs' : u.Sane) (w1 : World) (ho : Only (fun _ => False) w w1) (b : Nat) (hb : w1.heap[b]? = some (.cells #[.int .i64 t.k, .int .i64 t.n, .string t.s, .slice ao t.l.length cap, .int .i64 u.k, .int .i64 u.n, .string u.s, .slice bo u.l.length bcap] 24 (0, 0))) : Lies w1 (some ⟨b, 0, none⟩) [t, u] := by
  have hlt := lt_of_block hb
  refine .mk _ _ (fun i => if i = 0 then ao else bo) (fun i => if i = 0 then cap else bcap) (fun i x hx => ?_) (fun i x hx => ?_)
  · match i, hx with
    | 0, hx =>
      simp only [List.getElem?_cons_zero, Option.some.injEq] at hx
      subst hx
      refine ⟨b, 0, rfl, hlt, ?_, ?_, ?_, ?_, hs, free_of_blk hb _⟩ <;> (rw [cell_of_blk hb]; rfl)
    | 1, hx =>
      simp only [List.getElem?_cons_succ, List.getElem?_cons_zero, Option.some.injEq] at hx
      subst hx
      refine ⟨b, 0, rfl, hlt, ?_, ?_, ?_, ?_, hs', free_of_blk hb _⟩ <;> (rw [cell_of_blk hb]; rfl)
    | i + 2, hx => simp at hx
  · match i, hx with
    | 0, hx =>
      simp only [List.getElem?_cons_zero, Option.some.injEq] at hx
      subst hx
      exact hl.later ho
    | 1, hx =>
      simp only [List.getElem?_cons_succ, List.getElem?_cons_zero, Option.some.injEq] at hx
      subst hx
      exact hl'.later ho
    | i + 2, hx => simp at hx
theorem may_two (t u : T) (w : World) (ao bo : Option Addr) (cap bcap : Nat) (hl : Lies w ao t.l) (hs : t.Sane) (hok : t.Ok) (hl' : Lies w bo u.l) (hs' : u.Sane) (hok' : u.Ok) (w1 : World) (ho : Only (fun _ => False) w w1) (b : Nat) (hb : w1.heap[b]? = some (.cells #[.int .i64 t.k, .int .i64 t.n, .string t.s, .slice ao t.l.length cap, .int .i64 u.k, .int .i64 u.n, .string u.s, .slice bo u.l.length bcap] 24 (0, 0))) :
    Calls Try.prog 86 #[.slice (some ⟨b, 0, none⟩) 2 2] w1 fun e w' => e = .returned (.bool true) ∧ Only (fun _ => False) w1 w' := by
  refine (may_ok [t, u] w1 _ 2 (Row.two hl hs hl' hs' w1 ho b hb) (by simp) (fun x hx => ?_)).mono ?_
  · rcases List.mem_cons.1 hx with rfl | hx
    · exact hok
    · rw [List.mem_singleton.1 hx]; exact hok'
  · rintro e w' ⟨rfl, ho2⟩
    exact ⟨rfl, ho2⟩
theorem pair_world (w : World) (k n : Int) (s : ByteArray) (l : List T) (ao : Option Addr) (cap : Nat) (k' n' : Int) (s' : ByteArray) (l' : List T) (bo : Option Addr) (bcap : Nat) :
    (((w.alloc (.cells #[.int .i64 k, .int .i64 n, .string s, .slice ao l.length cap] 24)).alloc (.cells #[.int .i64 k', .int .i64 n', .string s', .slice bo l'.length bcap] 24)).alloc (.cells #[.int .i64 k, .int .i64 n, .string s, .slice ao l.length cap, .int .i64 k', .int .i64 n', .string s', .slice bo l'.length bcap] 24)).heap[w.heap.size + 1 + 1]? = some (.cells #[.int .i64 k, .int .i64 n, .string s, .slice ao l.length cap, .int .i64 k', .int .i64 n', .string s', .slice bo l'.length bcap] 24 (0, 0)) ∧ Only (fun _ => False) w (((w.alloc (.cells #[.int .i64 k, .int .i64 n, .string s, .slice ao l.length cap] 24)).alloc (.cells #[.int .i64 k', .int .i64 n', .string s', .slice bo l'.length bcap] 24)).alloc (.cells #[.int .i64 k, .int .i64 n, .string s, .slice ao l.length cap, .int .i64 k', .int .i64 n', .string s', .slice bo l'.length bcap] 24)) ∧ BoxAt w.heap.size k n s ao l.length cap (((w.alloc (.cells #[.int .i64 k, .int .i64 n, .string s, .slice ao l.length cap] 24)).alloc (.cells #[.int .i64 k', .int .i64 n', .string s', .slice bo l'.length bcap] 24)).alloc (.cells #[.int .i64 k, .int .i64 n, .string s, .slice ao l.length cap, .int .i64 k', .int .i64 n', .string s', .slice bo l'.length bcap] 24)) ∧ BoxAt (w.heap.size + 1) k' n' s' bo l'.length bcap (((w.alloc (.cells #[.int .i64 k, .int .i64 n, .string s, .slice ao l.length cap] 24)).alloc (.cells #[.int .i64 k', .int .i64 n', .string s', .slice bo l'.length bcap] 24)).alloc (.cells #[.int .i64 k, .int .i64 n, .string s, .slice ao l.length cap, .int .i64 k', .int .i64 n', .string s', .slice bo l'.length bcap] 24)) ∧ (((w.alloc (.cells #[.int .i64 k, .int .i64 n, .string s, .slice ao l.length cap] 24)).alloc (.cells #[.int .i64 k', .int .i64 n', .string s', .slice bo l'.length bcap] 24)).alloc (.cells #[.int .i64 k, .int .i64 n, .string s, .slice ao l.length cap, .int .i64 k', .int .i64 n', .string s', .slice bo l'.length bcap] 24)).heap.size = w.heap.size + 3 := by
  have h1 := BoxAt.new w k n s ao l.length cap
  have h2 := BoxAt.new (w.alloc (.cells #[.int .i64 k, .int .i64 n, .string s, .slice ao l.length cap] 24)) k' n' s' bo l'.length bcap
  unfold boxW at h1 h2
  refine ⟨?_, ((Only.alloc _ _ _).same (Only.alloc _ _ _)).same (Only.alloc _ _ _), h1.later ((Only.alloc _ _ _).same (Only.alloc _ _ _)), ?_, by simp⟩
  · have := heap_alloc_new ((w.alloc (.cells #[.int .i64 k, .int .i64 n, .string s, .slice ao l.length cap] 24)).alloc (.cells #[.int .i64 k', .int .i64 n', .string s', .slice bo l'.length bcap] 24)) (.cells #[.int .i64 k, .int .i64 n, .string s, .slice ao l.length cap, .int .i64 k', .int .i64 n', .string s', .slice bo l'.length bcap] 24)
    simpa using this
  · have := h2.later (Only.alloc (fun _ => False) _ (.cells #[.int .i64 k, .int .i64 n, .string s, .slice ao l.length cap, .int .i64 k', .int .i64 n', .string s', .slice bo l'.length bcap] 24))
    simpa using this
end
end Go.Proofs.Ytoogmlgaeipenaa.terms
/- Terms: lists' items. -/
namespace Go.Proofs.Ytoogmlgaeipenaa.terms
set_option maxRecDepth 100000
section
open Go.RowKit Go.Proofs.Ytoogmlgaeipenaa.own Go.Maps
def T.pair (t : T) : Bool := (t.k == 4) && (decide (t.s.toList = [46]) && decide (t.l.length = 2))
theorem T.pair_iff {t : T} : t.pair = true ↔ t.k = 4 ∧ t.s.toList = [46] ∧ t.l.length = 2 := by
  unfold T.pair
  simp
theorem T.pair_list {t : T} (h : t.pair = true) : ∃ x y, t.l = [x, y] := by
  have h2 := (T.pair_iff.1 h).2.2
  match hl : t.l, h2 with
  | [x, y], _ => exact ⟨x, y, rfl⟩
theorem depth_last {t : T} {x y : T} (h : t.l = [x, y]) : y.depth < t.depth := by
  obtain ⟨k, n, s, l⟩ := t
  simp only [T.l] at h
  subst h
  show y.depth < depths [x, y] + 1
  have := depth_mem (l := [x, y]) (x := y) (by simp)
  omega
def itemsF (t : T) : List T × T :=
  if t.pair = true then
    match h : t.l with
    | [x, y] => (x :: (itemsF y).1, (itemsF y).2)
    | _ => ([], t)
  else ([], t)
termination_by t.depth
decreasing_by all_goals exact depth_last h
theorem itemsF_end {t : T} (h : t.pair = false) : itemsF t = ([], t) := by
  rw [itemsF, if_neg (by rw [h]; decide)]
theorem itemsF_pair {t x y : T} (h : t.pair = true) (hl : t.l = [x, y]) : itemsF t = (x :: (itemsF y).1, (itemsF y).2) := by
  rw [itemsF, if_pos h]
  split
  · rename_i x' y' h'
    rw [hl] at h'
    cases h'
    rfl
  · rename_i h'
    exact absurd hl (h' x y)
end
end Go.Proofs.Ytoogmlgaeipenaa.terms
/- Terms: Items. -/
namespace Go.Proofs.Ytoogmlgaeipenaa.terms
set_option maxRecDepth 100000
section
open Go.RowKit Go.Proofs.Ytoogmlgaeipenaa.own Go.Maps
theorem T.Ok.sub {t x : T} (h : t.Ok) (hx : x ∈ t.l) : x.Ok := by
  obtain ⟨k, n, s, l⟩ := t
  simp only [T.l] at hx
  have h1 := h.right
  rw [T.right_eq, Bool.and_eq_true] at h1
  have h2 := h.depth
  have h3 := h.size
  have h4 := depth_mem hx
  have h5 := size_mem hx
  have e2 : (T.mk k n s l).depth = depths l + 1 := rfl
  have e3 : (T.mk k n s l).size = 1 + sizes l := rfl
  exact ⟨rights_iff.1 h1.2 x hx, by omega, by omega⟩
/-- Items' loop under way: the items so far, and what is left of the list. -/
structure ItmI (w : World) (t : T) (its : List It) (oo : Option Addr) (oc : Nat) (u : T) (uo : Option Addr) (uc : Nat) (wr : World) : Prop where
  box : Quad w.heap.size (.int .i64 u.k) (.int .i64 u.n) (.string u.s) (.slice uo u.l.length uc) wr
  res : Quad (w.heap.size + 1) (.int .i64 0) (.int .i64 0) (.string ⟨#[]⟩) (.slice none 0 0) wr
  own : Only (fun _ => False) w wr
  lies : Lies w uo u.l
  sane : u.Sane
  ok : u.Ok
  row : ItsP (w.heap.size + 3) oo oc its wr
  subs : ∀ (i : Nat) (x : It), its[i]? = some x → x.t.Sane ∧ Row (fun q => w.heap.size + 3 ≤ q ∧ q < wr.heap.size ∧ ¬ RowAt oo q) wr x.ao x.t.l
  eq : itemsF t = (its.map (·.t) ++ (itemsF u).1, (itemsF u).2)
  len : its.length + u.depth ≤ t.depth
  size : w.heap.size + 3 ≤ wr.heap.size
theorem ItmI.later {w : World} {t : T} {its : List It} {oo : Option Addr} {oc : Nat} {u : T} {uo : Option Addr} {uc : Nat} {wr w' : World} (h : ItmI w t its oo oc u uo uc wr) (ho : Only (fun _ => False) wr w') : ItmI w t its oo oc u uo uc w' :=
  { h with
    box := h.box.only ho (fun e => e)
    res := h.res.only ho (fun e => e)
    own := h.own.same ho
    row := h.row.only ho (fun _ _ e => e)
    subs := fun i x hx => ⟨(h.subs i x hx).1, ((h.subs i x hx).2.only ho (fun q hq => hq.2.1) (fun _ _ e => e)).mono (fun q hq => ⟨hq.1, Nat.lt_of_lt_of_le hq.2.1 ho.size, hq.2.2⟩)⟩
    size := Nat.le_trans h.size ho.size }
/-- An item more: it was copied, put behind the others; what is left is in the box. -/
theorem ItmI.step {w : World} {t : T} {its : List It} {oo oo' : Option Addr} {oc oc' : Nat} {u x y : T} {uo yo : Option Addr} {uc yc : Nat} {w1 w2 w3 w4 : World} {co : Option Addr} {cc : Nat}
    (h : ItmI w t its oo oc u uo uc w1) (hp : u.pair = true) (hl : u.l = [x, y]) (hxs : x.Sane) (hrow : Row (fun q => w1.heap.size ≤ q ∧ q < w2.heap.size) w2 co x.l) (ho2 : Only (fun _ => False) w1 w2)
    (hr3 : ItsP (w.heap.size + 3) oo' oc' (its ++ [⟨x, co, cc⟩]) w3) (ho3 : Only (RowAt oo) w2 w3) (hnew : NewRow w2.heap.size oo oo') (hys : y.Sane) (hyl : Lies w yo y.l)
    (hq4 : Quad w.heap.size (.int .i64 y.k) (.int .i64 y.n) (.string y.s) (.slice yo y.l.length yc) w4) (ho4 : Only (· = w.heap.size) w3 w4) :
    ItmI w t (its ++ [⟨x, co, cc⟩]) oo' oc' y yo yc w4 := by
  have hhead := h.row.head
  have hoo : ∀ k, RowAt oo k → w.heap.size + 3 ≤ k ∧ k < w1.heap.size := by
    rintro k ⟨g, hg, rfl⟩
    exact (hhead g hg).2
  have s1 := ho2.size
  have s2 := ho3.size
  have s3 := ho4.size
  have hsz := h.size
  have hnr : ∀ q, w.heap.size + 3 ≤ q → q < w2.heap.size → ¬ RowAt oo q → ¬ RowAt oo' q := by
    rintro q h1 h2 h3 ⟨g, hg, rfl⟩
    rcases hnew g hg with e | e
    · exact h3 ⟨g, e, rfl⟩
    · omega
  refine ⟨hq4, ((h.res.only ho2 (fun e => e)).only ho3 (fun e => by have := hoo _ e; omega)).only ho4 (by omega), ?_, hyl, hys, h.ok.sub (by rw [hl]; simp), ?_, fun i z hz => ?_, ?_, ?_, by omega⟩
  · exact Only.cut (Only.cut (h.own.same ho2) ho3 (fun k e => by have := hoo k e; omega)) ho4 (fun k e => by omega)
  · refine hr3.only ho4 (fun g hg e => ?_)
    have := (hr3.head g hg).2.1
    omega
  · by_cases hi : i < its.length
    · rw [List.getElem?_append_left hi] at hz
      have hsub := h.subs i z hz
      refine ⟨hsub.1, ((((hsub.2.only ho2 (fun q hq => hq.2.1) (fun _ _ e => e)).only ho3 (fun q hq => by have := hq.2.1; omega) (fun q hq => hq.2.2)).only ho4 (fun q hq => by have := hq.2.1; omega) (fun q hq e => by have := hq.1; omega)).mono (fun q hq => ⟨hq.1, by have := hq.2.1; omega, hnr q hq.1 (by have := hq.2.1; omega) hq.2.2⟩))⟩
    · rw [List.getElem?_append_right (by omega)] at hz
      have hi0 : i - its.length = 0 := by
        cases hc : i - its.length with
        | zero => rfl
        | succ m => rw [hc] at hz; simp at hz
      rw [hi0] at hz
      simp only [List.getElem?_cons_zero, Option.some.injEq] at hz
      subst hz
      have hno : ∀ q, w1.heap.size ≤ q → ¬ RowAt oo q := fun q hq e => by have := hoo q e; omega
      refine ⟨hxs, (((hrow.only ho3 (fun q hq => hq.2) (fun q hq => hno q hq.1)).only ho4 (fun q hq => by have := hq.2; omega) (fun q hq e => by have := hq.1; omega)).mono (fun q hq => ⟨by have := hq.1; omega, by have := hq.2; omega, hnr q (by have := hq.1; omega) hq.2 (hno q hq.1)⟩))⟩
  · rw [h.eq, itemsF_pair hp hl]
    simp
  · have := h.len
    have := depth_last hl
    simp only [List.length_append, List.length_cons, List.length_nil]
    omega
end
end Go.Proofs.Ytoogmlgaeipenaa.terms
/- Terms: Items. -/
namespace Go.Proofs.Ytoogmlgaeipenaa.terms
set_option maxRecDepth 100000
section
open Go.RowKit Go.Proofs.Ytoogmlgaeipenaa.own Go.Maps
theorem ItsP.rowAny {P : Nat → Prop} {B cap : Nat} {oo : Option Addr} {xs : List It} {w : World} (h : ItsP B oo cap xs w) (hP : ∀ q, B ≤ q → q < w.heap.size → P q) (hs : ∀ (i : Nat) (x : It), xs[i]? = some x → x.t.Sane ∧ Row P w x.ao x.t.l) : Row P w oo (xs.map (·.t)) := by
  cases xs with
  | nil => exact Row.nil _ _ _
  | cons x r =>
    obtain ⟨g, hg, hB, _⟩ := h.at liesIt 0 x rfl
    have := (h.head _ hg).2
    subst hg
    exact h.row (hP g this.1 this.2) hs
theorem results_tmp_cell {fn : Func} {p u : Tmp} {ty : TypeId} (h : fn.results = #[.tmp u, .cell p ty]) (tmps : Array Value) (P : Program) (w : World) :
    (results fn tmps).run P w =
      ((asAddr (tmps.getD p undef)).run P w).andThen fun a w₁ => ((loadVar ty a).run P w₁).andThen fun v w₂ => .ok (.tuple #[tmps.getD u undef, v]) w₂ := by
  simp only [results, h]
  simp [Sem.run_bind, Result.andThen]
theorem results_tmp_term {fn : Func} {p u : Tmp} (h : fn.results = #[.tmp u, .cell p 24]) (tmps : Array Value) (w : World) (b : Nat) (x0 x1 x2 x3 x4 : Value) (ha : tmps.getD p undef = .pointer (some ⟨b, 0, none⟩)) (hu : tmps.getD u undef = x4) (h0 : w.cell? ⟨b, 0, none⟩ = some x0) (h1 : w.cell? ⟨b, 1, none⟩ = some x1) (h2 : w.cell? ⟨b, 2, none⟩ = some x2) (h3 : w.cell? ⟨b, 3, none⟩ = some x3) :
    (results fn tmps).run Try.prog w = .ok (.tuple #[x4, .agg #[x0, x1, x2, x3]]) w := by
  rw [results_tmp_cell h, ha, hu]
  go_simp
end
end Go.Proofs.Ytoogmlgaeipenaa.terms
