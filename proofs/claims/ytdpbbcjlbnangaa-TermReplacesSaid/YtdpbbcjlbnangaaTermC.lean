/- Terms: each variable is visited, and what follows: 7 texts in one. -/
import Derived.Test.YtdpbbcjlbnangaaTermB
import Derived.Outline
import Derived.Laws.ResultCell
/- Terms: each variable is visited. -/
namespace Go.Proofs.Ytdpbbcjlbnangaa.terms
section
open Go.RowKit Go.Proofs.Ytdpbbcjlbnangaa.own Go.Maps
section
variable {σ : Type}
mutual
def eachF (nxt : σ → Int → σ) : T → σ → σ | .mk k n _ l, st => eachL nxt l (if k = 1 then nxt st n else st)
def eachL (nxt : σ → Int → σ) : List T → σ → σ | [], st => st | x :: r, st => eachL nxt r (eachF nxt x st)
end
variable {nxt : σ → Int → σ}
theorem eachL_append (a b : List T) (st : σ) : eachL nxt (a ++ b) st = eachL nxt b (eachL nxt a st) := by
  induction a generalizing st with
  | nil => rfl
  | cons x r ih => simp only [List.cons_append, eachL, ih]
theorem eachL_step {l : List T} {i : Nat} {x : T} (h : l[i]? = some x) (st : σ) : eachL nxt (l.take (i + 1)) st = eachF nxt x (eachL nxt (l.take i) st) := by
  rw [take_snoc h, eachL_append]
  rfl
/-- What a visitor leaves. -/
def VPost (I : σ → (Nat → Prop) → World → Prop) (w : World) (S : Nat → Prop) (st' : σ) (e : Ending) (w' : World) : Prop := ∃ S', e = .returned (.tuple #[]) ∧ I st' S' w' ∧ Only S w w' ∧ ∀ k, S' k → Grew S w w' k
structure Visit (K : Nat) (caps : Array Value) (good : Int → Prop) (I : σ → (Nat → Prop) → World → Prop) (nxt : σ → Int → σ) : Prop where
  ent : ∀ args w, (callFunc K args).run Try.prog w = .ok (.enter K args) w
  call : ∀ st S n w, I st S w → good n → Calls Try.prog K (#[.int .i64 n] ++ caps) w (VPost I w S (nxt st n))
  stays : ∀ st S S'' w w', I st S w → Only S'' w w' → (∀ k, S k → ¬ S'' k) → I st S w'
  lt : ∀ st S w, I st S w → ∀ k, S k → k < w.heap.size
variable {K : Nat} {caps : Array Value} {good : Int → Prop} {I : σ → (Nat → Prop) → World → Prop}
set_option maxRecDepth 100000 in
set_option maxHeartbeats 4000000 in
theorem each_any (hP : Visit K caps good I nxt) (t : T) : ∀ (st : σ) (S : Nat → Prop) (w : World) (ao : Option Addr) (cap B : Nat), Row (· < B) w ao t.l → (∀ k, S k → B ≤ k) → B ≤ w.heap.size → t.Sane → I st S w → t.allv good → Calls Try.prog 57 #[tv t ao cap, .func (.func K) #[] caps] w (VPost I w S (eachF nxt t st)) := by
  have hent := hP.ent
  induction t using T.ind with
  | h k n s l ih =>
    intro st S w ao cap B hl hSB hB hs hI hg
    have HL := Lib.hid hl
    have HSB := Lib.hid hSB
    have HI := Lib.hid ih
    have HST := Lib.hid hI
    have HG := Lib.hid hg
    have hlen := hs.l
    unfold maxLen at hlen
    simp only [T.l] at hlen
    generalize hr : eachF nxt (T.mk k n s l) st = r
    have HR := Lib.hid hr
    have HLOOP : Hid (∀ (st1 : σ) (S1 : Nat → Prop) (w1 : World) (bx : Nat), w.heap.size ≤ bx → I st1 S1 w1 → (∀ q, S1 q → B ≤ q) → ¬ S1 bx → True) := Lib.hid (fun _ _ _ _ _ _ _ _ => trivial)
    show Calls Try.prog 57 #[.agg #[.int .i64 k, .int .i64 n, .string s, .slice ao l.length cap], .func (.func K) #[] caps] w (VPost I w S r)
    clear hl ih hs hI hg hr hSB HLOOP
    have hsize1 : w.heap.size + 1 = (w.alloc (.cells #[.int .i64 k, .int .i64 n, .string s, .slice ao l.length cap] 24)).heap.size := by simp
    have HNS : Hid (¬ S w.heap.size) := Lib.hid (fun e => by have := hP.lt _ _ _ HST.out _ e; omega)
    have HSZ := Lib.hid hsize1
    have HBX := Lib.hid (BoxAt.new w k n s ao l.length cap)
    have HO1 : Hid (Only (fun _ => False) w (w.alloc (.cells #[.int .i64 k, .int .i64 n, .string s, .slice ao l.length cap] 24))) := Lib.hid (Only.alloc _ _ _)
    have HI1 := Lib.hid (hP.stays _ _ _ _ _ HST.out HO1.out (fun _ _ e => e))
    have HSAL : Hid (∀ x, x ∈ l → x.allv good) := Lib.hid (fun x hx => allvs_mem HG.out.2 hx)
    unfold boxW at HBX
    clear hsize1
    by_cases hk : k = 1
    · subst hk
      go_enter Try.func57, Try.ntmps57
      go_wp2_with fail
      generalize w.alloc (.cells #[.int .i64 1, .int .i64 n, .string s, .slice ao l.length cap] 24) = w1 at *
      refine (hP.call st S n w1 HI1.out (HG.out.1 rfl)).mono ?_
      rintro e w2 ⟨S', rfl, hI2, ho2, hS2⟩
      have HR2 : Hid (r = eachL nxt l (nxt st n)) := Lib.hid (by rw [← HR.out]; unfold eachF; rw [if_pos rfl])
      have HE : Hid (I (nxt st n) S' w2 ∧ Only S w w2 ∧ (∀ q, S' q → Grew S w w2 q) ∧ ¬ S' w.heap.size ∧ BoxAt w.heap.size 1 n s ao l.length cap w2) := Lib.hid ⟨hI2, (HO1.out.no S).same ho2, fun q hq => by
        rcases hS2 q hq with e | e
        · exact .inl e
        · exact .inr ⟨by have := HO1.out.size; omega, e.2⟩, fun e => by
        rcases hS2 _ e with e | e
        · exact HNS.out e
        · have := HSZ.out; omega, HBX.out.only ho2 HNS.out⟩
      generalize nxt st n = st1 at *
      have d3 := HE.out.2.2.2.2.cells.2.2.2
      generalize hbx : w.heap.size = bx at *
      have HBX2 := Lib.hid hbx
      clear hI2 ho2 hS2 hbx
      go_wp2_with fail

      go_loopw [16] (fun i wr => ∃ j : Nat, i = .int .i64 j ∧ j ≤ l.length ∧ ∃ S', Hid (I (eachL nxt (l.take j) st1) S' wr ∧ Only S w wr ∧ (∀ q, S' q → Grew S w wr q))) (fun i _ => l.length - (intOf i).toNat)
      case atStart => exact ⟨0, rfl, by omega, _, Lib.hid ⟨HE.out.1, HE.out.2.1, HE.out.2.2.1⟩⟩
      case round =>
        obtain ⟨j, rfl, hj, S', hE⟩ := hrel
        clear HE
        by_cases hlt : j < l.length
        · obtain ⟨x, hx⟩ : ∃ x, l[j]? = some x := ⟨_, List.getElem?_eq_getElem hlt⟩
          obtain ⟨b, off, ro, rc, rfl, hb, c0, c1, c2, c3, hsane, hsub⟩ := (HL.out.only hE.out.2.1 (fun q hq => by have := HBX2.out; omega) (fun q hq e => by have := HSB.out q e; omega)).at hx
          have hmem := List.mem_of_getElem? hx
          have HX := Lib.hid (HI.out x hmem)
          have HXG := Lib.hid (HSAL.out x hmem)
          have HSA := Lib.hid hsane
          have HSUB := Lib.hid hsub
          have HGX := Lib.hid hx
          clear hx hsane hsub hmem
          go_wp2_with fail
          have HOA : Hid (Only (fun _ => False) wr (wr.alloc (.cells #[.int .i64 x.k, .int .i64 x.n, .string x.s, .slice ro x.l.length rc] 24))) := Lib.hid (Only.alloc _ _ _)
          generalize wr.alloc (.cells #[.int .i64 x.k, .int .i64 x.n, .string x.s, .slice ro x.l.length rc] 24) = w5 at *
          have hwr := hE.out.2.1.size
          refine (HX.out _ S' w5 ro rc B (HSUB.out.only HOA.out (fun q hq => by have := HBX2.out; omega) (fun _ _ e => e)) (fun q hq => by
            rcases hE.out.2.2 q hq with e | e
            · exact HSB.out q e
            · have := HBX2.out; omega) (by have := HOA.out.size; have := HBX2.out; omega) HSA.out (hP.stays _ _ _ _ _ hE.out.1 HOA.out (fun _ _ e => e)) HXG.out).mono ?_
          rintro e w6 ⟨S'', rfl, hI2, ho2, hS2⟩
          have HE2 : Hid (I (eachL nxt (l.take (j + 1)) st1) S'' w6 ∧ Only S w w6 ∧ (∀ q, S'' q → Grew S w w6 q)) := by
            rw [eachL_step HGX.out]
            refine Lib.hid ⟨hI2, (hE.out.2.1.same (HOA.out.no S)).trans ho2 (fun q hq e => ?_), fun q hq => ?_⟩
            · rcases hE.out.2.2 q e with e | e
              · exact e
              · omega
            · have h5 := HOA.out.size
              have h6 := ho2.size
              rcases hS2 q hq with e | e
              · rcases hE.out.2.2 q e with e | e
                · exact .inl e
                · exact .inr ⟨e.1, by omega⟩
              · exact .inr ⟨by omega, e.2⟩
          clear hI2 ho2 hS2
          go_wp2_with fail
          go_roundw
          case rel => exact ⟨j + 1, by go_num, by omega, _, HE2⟩
          case measure => simp [intOf]; omega
        · obtain rfl : j = l.length := by omega
          go_wp2_with fail
          refine bodyPost_ret (results_none rfl _ _ _) rfl ?_
          have h := hE.out
          rw [List.take_length, ← HR2.out] at h
          exact ⟨S', rfl, h.1, h.2.1, h.2.2⟩
    · have hkb : (k == 1) = false := by simpa using hk
      go_enter Try.func57, Try.ntmps57
      go_wp2_with fail
      generalize w.alloc (.cells #[.int .i64 k, .int .i64 n, .string s, .slice ao l.length cap] 24) = w1 at *
      have HR2 : Hid (r = eachL nxt l st) := Lib.hid (by rw [← HR.out]; unfold eachF; rw [if_neg hk])
      have HE : Hid (I st S w1 ∧ Only S w w1 ∧ (∀ q, S q → Grew S w w1 q) ∧ True ∧ True) := Lib.hid ⟨HI1.out, HO1.out.no S, fun q hq => .inl hq, trivial, trivial⟩
      have d3 := HBX.out.cells.2.2.2
      generalize hst1 : st = st1 at *
      generalize hbx : w.heap.size = bx at *
      have HBX2 := Lib.hid hbx
      clear hbx hst1
      go_wp2_with fail

      go_loopw [16] (fun i wr => ∃ j : Nat, i = .int .i64 j ∧ j ≤ l.length ∧ ∃ S', Hid (I (eachL nxt (l.take j) st1) S' wr ∧ Only S w wr ∧ (∀ q, S' q → Grew S w wr q))) (fun i _ => l.length - (intOf i).toNat)
      case atStart => exact ⟨0, rfl, by omega, _, Lib.hid ⟨HE.out.1, HE.out.2.1, HE.out.2.2.1⟩⟩
      case round =>
        obtain ⟨j, rfl, hj, S', hE⟩ := hrel
        clear HE
        by_cases hlt : j < l.length
        · obtain ⟨x, hx⟩ : ∃ x, l[j]? = some x := ⟨_, List.getElem?_eq_getElem hlt⟩
          obtain ⟨b, off, ro, rc, rfl, hb, c0, c1, c2, c3, hsane, hsub⟩ := (HL.out.only hE.out.2.1 (fun q hq => by have := HBX2.out; omega) (fun q hq e => by have := HSB.out q e; omega)).at hx
          have hmem := List.mem_of_getElem? hx
          have HX := Lib.hid (HI.out x hmem)
          have HXG := Lib.hid (HSAL.out x hmem)
          have HSA := Lib.hid hsane
          have HSUB := Lib.hid hsub
          have HGX := Lib.hid hx
          clear hx hsane hsub hmem
          go_wp2_with fail
          have HOA : Hid (Only (fun _ => False) wr (wr.alloc (.cells #[.int .i64 x.k, .int .i64 x.n, .string x.s, .slice ro x.l.length rc] 24))) := Lib.hid (Only.alloc _ _ _)
          generalize wr.alloc (.cells #[.int .i64 x.k, .int .i64 x.n, .string x.s, .slice ro x.l.length rc] 24) = w5 at *
          have hwr := hE.out.2.1.size
          refine (HX.out _ S' w5 ro rc B (HSUB.out.only HOA.out (fun q hq => by have := HBX2.out; omega) (fun _ _ e => e)) (fun q hq => by
            rcases hE.out.2.2 q hq with e | e
            · exact HSB.out q e
            · have := HBX2.out; omega) (by have := HOA.out.size; have := HBX2.out; omega) HSA.out (hP.stays _ _ _ _ _ hE.out.1 HOA.out (fun _ _ e => e)) HXG.out).mono ?_
          rintro e w6 ⟨S'', rfl, hI2, ho2, hS2⟩
          have HE2 : Hid (I (eachL nxt (l.take (j + 1)) st1) S'' w6 ∧ Only S w w6 ∧ (∀ q, S'' q → Grew S w w6 q)) := by
            rw [eachL_step HGX.out]
            refine Lib.hid ⟨hI2, (hE.out.2.1.same (HOA.out.no S)).trans ho2 (fun q hq e => ?_), fun q hq => ?_⟩
            · rcases hE.out.2.2 q e with e | e
              · exact e
              · omega
            · have h5 := HOA.out.size
              have h6 := ho2.size
              rcases hS2 q hq with e | e
              · rcases hE.out.2.2 q e with e | e
                · exact .inl e
                · exact .inr ⟨e.1, by omega⟩
              · exact .inr ⟨by omega, e.2⟩
          clear hI2 ho2 hS2
          go_wp2_with fail
          go_roundw
          case rel => exact ⟨j + 1, by go_num, by omega, _, HE2⟩
          case measure => simp [intOf]; omega
        · obtain rfl : j = l.length := by omega
          go_wp2_with fail
          refine bodyPost_ret (results_none rfl _ _ _) rfl ?_
          have h := hE.out
          rw [List.take_length, ← HR2.out] at h
          exact ⟨S', rfl, h.1, h.2.1, h.2.2⟩
end
end
end Go.Proofs.Ytdpbbcjlbnangaa.terms
/- Terms: Vars, Ground. -/
namespace Go.Proofs.Ytdpbbcjlbnangaa.terms
section
open Go.RowKit Go.Proofs.Ytdpbbcjlbnangaa.own Go.Maps
set_option maxRecDepth 100000 in
theorem vars1_any {sb : Nat} {v l : List Int} {S : Nat → Prop} {w : World} (n : Int) (hn : Fits n) (hm : n ∈ v) (h : RenI sb v l S w) : Calls Try.prog 58 #[.int .i64 n, .pointer (some ⟨sb, 0, none⟩)] w (VPost (RenI sb v) w S (renNxt l n)) := by
  have HN := Lib.hid (number_any n hn hm h)
  clear h hn hm
  go_enter Try.func58, Try.ntmps58
  go_wp2_with fail
  refine HN.out.mono ?_
  rintro e w1 ⟨S', rfl, hI, ho, hS⟩
  have HI := Lib.hid hI
  have HO := Lib.hid ho
  have HS := Lib.hid hS
  clear hI ho hS
  go_wp2_with fail
  refine bodyPost_ret (results_none rfl _ _ _) rfl ?_
  exact ⟨S', rfl, HI.out, HO.out, HS.out⟩
theorem visit_vars (sb : Nat) (v : List Int) : Visit 58 #[.pointer (some ⟨sb, 0, none⟩)] (fun n => n ∈ v ∧ Fits n) (RenI sb v) renNxt where
  ent := fun args w => by rfl
  call := fun st S n w hI hn => vars1_any n hn.2 hn.1 hI
  stays := fun st S S'' w w' hI ho hS => ⟨hI.1.only ho hS, hI.2⟩
  lt := fun st S w hI => hI.1.lt
def varsF (t : T) : List Int := eachF renNxt t []
theorem each_vars (t : T) (w : World) (ao : Option Addr) (cap : Nat) (hl : Lies w ao t.l) (hs : t.Sane) (hr : t.right = true) (hz : t.size ≤ 16777215) (w1 : World) (ho : Only (fun _ => False) w w1) (sb : Nat) (hsb : w.heap.size ≤ sb) (hser : Ser sb [] (· = sb) w1) :
    Calls Try.prog 57 #[tv t ao cap, .func (.func 58) #[] #[.pointer (some ⟨sb, 0, none⟩)]] w1 fun e w' => ∃ S', e = .returned (.tuple #[]) ∧ Ser sb (varsF t) S' w' ∧ (varsF t).length ≤ t.size ∧ Only (· = sb) w1 w' ∧ ∀ k, S' k → w.heap.size ≤ k := by
  have hav : t.allv (fun n => n ∈ t.occ ∧ Fits n) := allv_and t (allv_occ t) (right_allv (p := Fits) (fun n h0 h1 => ⟨by omega, by omega⟩) t hr)
  have hoc := occ_le t
  have hI : RenI sb t.occ [] (· = sb) w1 := ⟨hser, Kept.nil _, by omega⟩
  have hsz := ho.size
  refine (each_any (visit_vars sb t.occ) t [] (· = sb) w1 ao cap w.heap.size (hl.only ho (fun _ e => e) (fun _ _ e => e)) (fun k e => by omega) hsz hs hI hav).mono ?_
  rintro e w' ⟨S', rfl, hI2, ho2, hS⟩
  have := nodup_le hI2.2.1.nodup hI2.2.1.sub
  refine ⟨S', rfl, hI2.1, by have : (varsF t).length ≤ t.occ.length := this; omega, ho2, fun k hk => ?_⟩
  rcases hS k hk with e | e
  · omega
  · omega
set_option maxRecDepth 100000 in
set_option maxHeartbeats 2000000 in
theorem Vars_ok (t : T) (w : World) (ao : Option Addr) (cap : Nat) (hl : Lies w ao t.l) (hs : t.Sane) (hok : t.Ok) :
    Calls Try.prog 28 #[tv t ao cap] w fun e w' => ∃ oo oc, e = .returned (.slice oo (varsF t).length oc) ∧ OrdP oo oc (varsF t) w' ∧ (∀ g, oo = some g → w.heap.size ≤ g.block) ∧ Only (fun _ => False) w w' := by
  have HM := Lib.hid (may_one t w ao cap hl hs hok)
  have HE := Lib.hid (each_vars t w ao cap hl hs hok.right (by have := hok.size; omega))
  have HZ := Lib.hid hok.size
  obtain ⟨k, n, s, l⟩ := t
  generalize varsF (T.mk k n s l) = r at *
  show Calls Try.prog 28 #[.agg #[.int .i64 k, .int .i64 n, .string s, .slice ao l.length cap]] w _
  clear hl hs hok
  go_enter Try.func28, Try.ntmps28
  go_wp2_with fail
  have hb : ((w.alloc (.cells #[.int .i64 k, .int .i64 n, .string s, .slice ao l.length cap] 24)).alloc (.cells #[.int .i64 k, .int .i64 n, .string s, .slice ao l.length cap] 24)).heap[w.heap.size + 1]? = some (.cells #[.int .i64 k, .int .i64 n, .string s, .slice ao l.length cap] 24 (0, 0)) := by
    have := heap_alloc_new (w.alloc (.cells #[.int .i64 k, .int .i64 n, .string s, .slice ao l.length cap] 24)) (.cells #[.int .i64 k, .int .i64 n, .string s, .slice ao l.length cap] 24)
    simpa using this
  have ho : Only (fun _ => False) w ((w.alloc (.cells #[.int .i64 k, .int .i64 n, .string s, .slice ao l.length cap] 24)).alloc (.cells #[.int .i64 k, .int .i64 n, .string s, .slice ao l.length cap] 24)) := (Only.alloc _ _ _).same (Only.alloc _ _ _)
  have hbx : BoxAt w.heap.size k n s ao l.length cap ((w.alloc (.cells #[.int .i64 k, .int .i64 n, .string s, .slice ao l.length cap] 24)).alloc (.cells #[.int .i64 k, .int .i64 n, .string s, .slice ao l.length cap] 24)) := (BoxAt.new w k n s ao l.length cap).later (Only.alloc _ _ _)
  have hsz : w.heap.size + 2 = ((w.alloc (.cells #[.int .i64 k, .int .i64 n, .string s, .slice ao l.length cap] 24)).alloc (.cells #[.int .i64 k, .int .i64 n, .string s, .slice ao l.length cap] 24)).heap.size := by simp
  refine (HM.out _ ho _ hb).mono ?_
  rintro e w1 ⟨rfl, ho1⟩
  have HO := Lib.hid (ho.same ho1)
  have HSZ : Hid (w.heap.size + 2 ≤ w1.heap.size) := Lib.hid (by have := ho1.size; omega)
  have HBX := Lib.hid (hbx.later ho1)
  clear hb ho hbx ho1 hsz
  have hser := Ser.new w1
  have ho2 : Only (fun _ => False) w1 (w1.alloc (.cells #[.map none, .slice none 0 0] 60)) := Only.alloc _ _ _
  obtain ⟨d0, d1, d2, d3⟩ := (HBX.out.later ho2).cells
  have HS0 := Lib.hid hser
  have HO2 := Lib.hid (HO.out.same ho2)
  have HOP := Lib.hid ho2
  clear hser ho2
  go_wp2_with fail
  refine (HE.out _ HO2.out w1.heap.size (by have := HSZ.out; omega) HS0.out).mono ?_
  rintro e w2 ⟨S', rfl, ⟨mo, oo, oc, hc⟩, hlen, ho3, hS⟩
  have HC := Lib.hid hc
  have HO3 : Hid (Only (fun _ => False) w w2) := Lib.hid (Only.cut HO2.out ho3 (fun k e => by have := HSZ.out; omega))
  have HS := Lib.hid hS
  have s1 := cell_of_blk HC.out.blk 1
  simp only [List.getElem?_toArray, List.getElem?_cons_zero, List.getElem?_cons_succ] at s1
  have hlz : r.length ≤ 4096 := by have := HZ.out; omega
  clear hc ho3 hS hlen
  go_wp2_with fail
  go_ret
  exact ⟨oo, oc, rfl, HC.out.row, fun g hg => HS.out _ (HC.out.own.2.2 g hg), HO3.out⟩
/-- Ground: the flag is on until a variable is met. -/
def GrI (gb : Nat) (g : Bool) (S : Nat → Prop) (w : World) : Prop := w.heap[gb]? = some (.cells #[.bool g] 4 (0, 0)) ∧ ∀ k, S k ↔ k = gb
set_option maxRecDepth 100000 in
theorem ground1_any {gb : Nat} {g : Bool} {S : Nat → Prop} {w : World} (n : Int) (h : GrI gb g S w) : Calls Try.prog 60 #[.int .i64 n, .pointer (some ⟨gb, 0, none⟩)] w (VPost (GrI gb) w S false) := by
  have H := Lib.hid h
  clear h
  have c0 := cell_of_blk H.out.1 0
  have f0 := free_of_blk H.out.1 0
  simp only [List.getElem?_toArray, List.getElem?_cons_zero, List.getElem?_cons_succ] at c0
  go_enter Try.func60, Try.ntmps60
  go_wp2_with fail
  refine bodyPost_ret (results_none rfl _ _ _) rfl ?_
  have hgb := lt_of_block H.out.1
  have b1 := blk_set H.out.1 0 (.bool false)
  have o1 : Only (· = gb) w (w.setCell ⟨gb, 0, none⟩ (.bool false)) := Only.setCell (S := (· = gb)) _ (p := ⟨gb, 0, none⟩) rfl _
  refine ⟨S, rfl, ⟨by simpa using b1, H.out.2⟩, o1.mono (fun k _ e => (H.out.2 k).2 e), fun k hk => .inl hk⟩
theorem visit_ground (gb : Nat) : Visit 60 #[.pointer (some ⟨gb, 0, none⟩)] (fun _ => True) (GrI gb) (fun _ _ => false) where
  ent := fun args w => by rfl
  call := fun st S n w hI hn => ground1_any n hI
  stays := fun st S S'' w w' hI ho hS => ⟨by rw [ho.block gb (lt_of_block hI.1) (hS gb ((hI.2 gb).2 rfl))]; exact hI.1, hI.2⟩
  lt := fun st S w hI k hk => by rw [(hI.2 k).1 hk]; exact lt_of_block hI.1
def groundF (t : T) : Bool := eachF (fun _ _ => false) t true
theorem allv_true (t : T) : t.allv (fun _ => True) := allv_mono (fun _ _ => trivial) t (allv_occ t)
theorem each_ground (t : T) (w : World) (ao : Option Addr) (cap : Nat) (hl : Lies w ao t.l) (hs : t.Sane) (w1 : World) (ho : Only (fun _ => False) w w1) (gb : Nat) (hgb : w.heap.size ≤ gb) (hg : GrI gb true (· = gb) w1) :
    Calls Try.prog 57 #[tv t ao cap, .func (.func 60) #[] #[.pointer (some ⟨gb, 0, none⟩)]] w1 fun e w' => e = .returned (.tuple #[]) ∧ w'.heap[gb]? = some (.cells #[.bool (groundF t)] 4 (0, 0)) ∧ Only (· = gb) w1 w' := by
  refine (each_any (visit_ground gb) t true (· = gb) w1 ao cap w.heap.size (hl.only ho (fun _ e => e) (fun _ _ e => e)) (fun k e => by omega) ho.size hs hg (allv_true t)).mono ?_
  rintro e w' ⟨S', rfl, hI2, ho2, hS⟩
  exact ⟨rfl, hI2.1, ho2⟩
set_option maxRecDepth 100000 in
set_option maxHeartbeats 2000000 in
theorem Ground_ok (t : T) (w : World) (ao : Option Addr) (cap : Nat) (hl : Lies w ao t.l) (hs : t.Sane) (hok : t.Ok) :
    Calls Try.prog 29 #[tv t ao cap] w fun e w' => e = .returned (.bool (groundF t)) ∧ Only (fun _ => False) w w' := by
  have HM := Lib.hid (may_one t w ao cap hl hs hok)
  have HE := Lib.hid (each_ground t w ao cap hl hs)
  obtain ⟨k, n, s, l⟩ := t
  generalize groundF (T.mk k n s l) = r at *
  show Calls Try.prog 29 #[.agg #[.int .i64 k, .int .i64 n, .string s, .slice ao l.length cap]] w _
  clear hl hs hok
  go_enter Try.func29, Try.ntmps29
  go_wp2_with fail
  have hb : ((w.alloc (.cells #[.int .i64 k, .int .i64 n, .string s, .slice ao l.length cap] 24)).alloc (.cells #[.int .i64 k, .int .i64 n, .string s, .slice ao l.length cap] 24)).heap[w.heap.size + 1]? = some (.cells #[.int .i64 k, .int .i64 n, .string s, .slice ao l.length cap] 24 (0, 0)) := by
    have := heap_alloc_new (w.alloc (.cells #[.int .i64 k, .int .i64 n, .string s, .slice ao l.length cap] 24)) (.cells #[.int .i64 k, .int .i64 n, .string s, .slice ao l.length cap] 24)
    simpa using this
  have ho : Only (fun _ => False) w ((w.alloc (.cells #[.int .i64 k, .int .i64 n, .string s, .slice ao l.length cap] 24)).alloc (.cells #[.int .i64 k, .int .i64 n, .string s, .slice ao l.length cap] 24)) := (Only.alloc _ _ _).same (Only.alloc _ _ _)
  have hbx : BoxAt w.heap.size k n s ao l.length cap ((w.alloc (.cells #[.int .i64 k, .int .i64 n, .string s, .slice ao l.length cap] 24)).alloc (.cells #[.int .i64 k, .int .i64 n, .string s, .slice ao l.length cap] 24)) := (BoxAt.new w k n s ao l.length cap).later (Only.alloc _ _ _)
  have hsz : w.heap.size + 2 = ((w.alloc (.cells #[.int .i64 k, .int .i64 n, .string s, .slice ao l.length cap] 24)).alloc (.cells #[.int .i64 k, .int .i64 n, .string s, .slice ao l.length cap] 24)).heap.size := by simp
  refine (HM.out _ ho _ hb).mono ?_
  rintro e w1 ⟨rfl, ho1⟩
  have HO := Lib.hid (ho.same ho1)
  have HSZ : Hid (w.heap.size + 2 ≤ w1.heap.size) := Lib.hid (by have := ho1.size; omega)
  have HBX := Lib.hid (hbx.later ho1)
  clear hb ho hbx ho1 hsz
  have ho2 : Only (fun _ => False) w1 (w1.alloc (.cells #[.bool true] 4)) := Only.alloc _ _ _
  have hg : GrI w1.heap.size true (· = w1.heap.size) (w1.alloc (.cells #[.bool true] 4)) := ⟨heap_alloc_new _ _, fun k => Iff.rfl⟩
  have HG := Lib.hid hg
  have HO2 := Lib.hid (HO.out.same ho2)
  obtain ⟨d0, d1, d2, d3⟩ := (HBX.out.later ho2).cells
  clear hg ho2
  go_wp2_with fail
  refine (HE.out _ HO2.out w1.heap.size (by have := HSZ.out; omega) HG.out).mono ?_
  rintro e w2 ⟨rfl, hgr, ho3⟩
  have HO3 : Hid (Only (fun _ => False) w w2) := Lib.hid (Only.cut HO2.out ho3 (fun k e => by have := HSZ.out; omega))
  have s1 := cell_of_blk hgr 0
  simp only [List.getElem?_toArray, List.getElem?_cons_zero, List.getElem?_cons_succ] at s1
  clear hgr ho3
  go_wp2_with fail
  go_ret
  exact ⟨rfl, HO3.out⟩
end
end Go.Proofs.Ytdpbbcjlbnangaa.terms
/- Terms: same. -/
namespace Go.Proofs.Ytdpbbcjlbnangaa.terms
section
open Go.RowKit Go.Proofs.Ytdpbbcjlbnangaa.own Go.Maps
def SameC (x : T) : Prop := ∀ (y : T) (w : World) (ao bo : Option Addr) (cap bcap : Nat), Lies w ao x.l → x.Sane → Lies w bo y.l → y.Sane → Calls Try.prog 61 #[tv x ao cap, tv y bo bcap] w fun e w' => e = .returned (.bool (x.eqb y)) ∧ Only (fun _ => False) w w'
set_option maxRecDepth 100000 in
set_option maxHeartbeats 2000000 in
theorem eqf_any (l l' : List T) (hI : ∀ x ∈ l, SameC x) (w : World) (ao bo : Option Addr) (cap bcap : Nat) (hl : Lies w ao l) (hl' : Lies w bo l') (hlen : l.length ≤ maxLen) (hlen' : l'.length ≤ maxLen) :
    Calls Try.prog 72 #[.slice ao l.length cap, .slice bo l'.length bcap, .func (.func 61) #[] #[]] w fun e w' => e = .returned (.bool (decide (l.length = l'.length) && eqbs l l')) ∧ Only (fun _ => False) w w' := by
  have HL := Lib.hid hl
  have HL' := Lib.hid hl'
  have HI := Lib.hid hI
  unfold maxLen at hlen hlen'
  clear hl hl' hI
  by_cases h4 : l.length = l'.length
  · have e4 : (l.length : Int) = (l'.length : Int) := by omega
    have HE : Hid ((decide (l.length = l'.length) && eqbs l l') = eqbs l l') := Lib.hid (by simp [h4])
    go_enter Try.func72, Try.ntmps72
    go_wp2_with fail
    have HLEN : Hid (l.length = l'.length) := Lib.hid h4
    clear e4 h4
    go_loopw [17] (fun i wr => ∃ j : Nat, i = .int .i64 j ∧ j ≤ l'.length ∧ Hid (eqbs (l.take j) (l'.take j) = true) ∧ Hid (Only (fun _ => False) w wr)) (fun i _ => l'.length - (intOf i).toNat)
    case atStart => exact ⟨0, rfl, by omega, Lib.hid (by simp [eqbs]), Lib.hid (Only.refl _ _)⟩
    case round =>
      obtain ⟨j, rfl, hj, hT, hR⟩ := hrel
      by_cases hlt : j < l'.length
      · obtain ⟨x, hx⟩ : ∃ x, l[j]? = some x := ⟨_, List.getElem?_eq_getElem (by rw [HLEN.out]; exact hlt)⟩
        obtain ⟨y, hy⟩ : ∃ y, l'[j]? = some y := ⟨_, List.getElem?_eq_getElem hlt⟩
        obtain ⟨b, off, ro, rc, rfl, hb, c0, c1, c2, c3, hsane, hsub⟩ := (HL.out.later hR.out).at hx
        obtain ⟨b', off', ro', rc', rfl, hb', c0', c1', c2', c3', hsane', hsub'⟩ := (HL'.out.later hR.out).at hy
        have HX := Lib.hid (HI.out x (List.mem_of_getElem? hx))
        have HSA := Lib.hid hsane
        have HSUB := Lib.hid hsub
        have HSA' := Lib.hid hsane'
        have HSUB' := Lib.hid hsub'
        have HEq := Lib.hid (eqbs_step hx hy)
        have HM : Hid (x.eqb y = false → eqbs l l' = false) := Lib.hid (fun e => by
          cases hr : eqbs l l' with
          | false => rfl
          | true => rw [eqbs_mem hx hy hr] at e; exact e)
        have hb0 : (0 : Int) ≤ (j : Int) := by omega
        have hb1 : (j : Int) < (l'.length : Int) := by omega
        have hb2 : (j : Int) < (l.length : Int) := by have := HLEN.out; omega
        clear hx hy hsane hsub hsane' hsub'
        go_wp2_with fail
        have ho : Only (fun _ => False) wr ((wr.alloc (.cells #[.int .i64 x.k, .int .i64 x.n, .string x.s, .slice ro x.l.length rc] 24)).alloc (.cells #[.int .i64 y.k, .int .i64 y.n, .string y.s, .slice ro' y.l.length rc'] 24)) := (Only.alloc _ _ _).same (Only.alloc _ _ _)
        refine (HX.out y _ ro ro' rc rc' (HSUB.out.later ho) HSA.out (HSUB'.out.later ho) HSA'.out).mono ?_
        rintro e w2 ⟨rfl, ho2⟩
        have H2 : Hid (Only (fun _ => False) w w2) := Lib.hid ((hR.out.same ho).same ho2)
        clear ho2 ho
        cases hxr : x.eqb y with
        | false =>
          have HF := Lib.hid (HM.out hxr)
          clear hxr
          go_wp2_with fail
          go_ret
          exact ⟨retb (by rw [HE.out, HF.out]), H2.out⟩
        | true =>
          have HT2 : Hid (eqbs (l.take (j + 1)) (l'.take (j + 1)) = true) := Lib.hid (by rw [HEq.out, hT.out, hxr]; rfl)
          clear hxr
          go_wp2_with fail
          go_roundw
          case rel => exact ⟨j + 1, by go_num, by omega, HT2, H2⟩
          case measure => simp [intOf]; omega
      · obtain rfl : j = l'.length := by omega
        have HT2 : Hid (eqbs l l' = true) := Lib.hid (by have := hT.out; rw [List.take_of_length_le (by rw [HLEN.out]; omega), List.take_length] at this; exact this)
        go_wp2_with fail
        go_ret
        exact ⟨retb (by rw [HE.out, HT2.out]), hR.out⟩
  · have hne : ¬ (l.length : Int) = (l'.length : Int) := by omega
    have HE : Hid ((decide (l.length = l'.length) && eqbs l l') = false) := Lib.hid (by simp [h4])
    clear h4
    go_enter Try.func72, Try.ntmps72
    go_wp2_with fail
    go_ret
    exact ⟨retb (by rw [HE.out]), Only.refl _ _⟩
set_option maxRecDepth 100000 in
set_option maxHeartbeats 2000000 in
theorem same_any (a : T) : SameC a := by
  induction a using T.ind with
  | h k n s l ih =>
    intro b w ao bo cap bcap hl hs hl' hs'
    obtain ⟨k', n', s', l'⟩ := b
    have HF : Hid (∀ w1, Only (fun _ => False) w w1 → Calls Try.prog 72 #[.slice ao l.length cap, .slice bo l'.length bcap, .func (.func 61) #[] #[]] w1 fun e w' => e = .returned (.bool (decide (l.length = l'.length) && eqbs l l')) ∧ Only (fun _ => False) w w') := Lib.hid (fun w1 ho => (eqf_any l l' ih w1 ao bo cap bcap (hl.later ho) (hl'.later ho) hs.l hs'.l).mono fun e w' h => ⟨h.1, ho.same h.2⟩)
    show Calls Try.prog 61 #[.agg #[.int .i64 k, .int .i64 n, .string s, .slice ao l.length cap], .agg #[.int .i64 k', .int .i64 n', .string s', .slice bo l'.length bcap]] w fun e w' => e = .returned (.bool ((k == k') && ((n == n') && (decide (s.toList = s'.toList) && (decide (l.length = l'.length) && eqbs l l'))))) ∧ Only (fun _ => False) w w'
    clear ih hl hs hl' hs'
    by_cases h1 : k = k'
    · by_cases h2 : n = n'
      · by_cases h3 : s.toList = s'.toList
        · subst h1 h2
          have HE : Hid (((k == k) && ((n == n) && (decide (s.toList = s'.toList) && (decide (l.length = l'.length) && eqbs l l')))) = (decide (l.length = l'.length) && eqbs l l')) := Lib.hid (by simp [h3])
          generalize hr : (decide (l.length = l'.length) && eqbs l l') = r at *
          have HO : Hid (Only (fun _ => False) w ((w.alloc (.cells #[.int .i64 k, .int .i64 n, .string s, .slice ao l.length cap] 24)).alloc (.cells #[.int .i64 k, .int .i64 n, .string s', .slice bo l'.length bcap] 24))) := Lib.hid ((Only.alloc _ _ _).same (Only.alloc _ _ _))
          clear hr
          go_enter Try.func61, Try.ntmps61
          go_wp2_with fail
          refine (HF.out _ HO.out).mono ?_
          rintro e w2 ⟨rfl, ho2⟩
          have H2 := Lib.hid ho2
          clear ho2
          go_wp2_with fail
          go_ret
          exact ⟨retb (by rw [HE.out]), H2.out⟩
        · have HE : Hid (((k == k') && ((n == n') && (decide (s.toList = s'.toList) && (decide (l.length = l'.length) && eqbs l l')))) = false) := Lib.hid (by simp [h3])
          subst h1 h2
          go_enter Try.func61, Try.ntmps61
          go_wp2_with fail
          go_ret
          exact ⟨retb (by simp [h3]), (Only.alloc _ _ _).same (Only.alloc _ _ _)⟩
      · have HE : Hid (((k == k') && ((n == n') && (decide (s.toList = s'.toList) && (decide (l.length = l'.length) && eqbs l l')))) = false) := Lib.hid (by simp [h2])
        subst h1
        go_enter Try.func61, Try.ntmps61
        go_wp2_with fail
        go_ret
        exact ⟨retb (by simp [h2]), (Only.alloc _ _ _).same (Only.alloc _ _ _)⟩
    · have HE : Hid (((k == k') && ((n == n') && (decide (s.toList = s'.toList) && (decide (l.length = l'.length) && eqbs l l')))) = false) := Lib.hid (by simp [h1])
      go_enter Try.func61, Try.ntmps61
      go_wp2_with fail
      go_ret
      exact ⟨retb (by simp [h1]), (Only.alloc _ _ _).same (Only.alloc _ _ _)⟩
end
end Go.Proofs.Ytdpbbcjlbnangaa.terms
/- Terms: Same, Variant. -/
namespace Go.Proofs.Ytdpbbcjlbnangaa.terms
section
open Go.RowKit Go.Proofs.Ytdpbbcjlbnangaa.own Go.Maps
theorem Row.two {w : World} {t u : T} {ao bo : Option Addr} {cap bcap : Nat} (hl : Lies w ao t.l) (hs : t.Sane) (hl' : Lies w bo u.l) (hs' : u.Sane) (w1 : World) (ho : Only (fun _ => False) w w1) (b : Nat) (hb : w1.heap[b]? = some (.cells #[.int .i64 t.k, .int .i64 t.n, .string t.s, .slice ao t.l.length cap, .int .i64 u.k, .int .i64 u.n, .string u.s, .slice bo u.l.length bcap] 24 (0, 0))) : Lies w1 (some ⟨b, 0, none⟩) [t, u] := by
  have hlt := lt_of_block hb
  refine .mk _ _ (fun i => if i = 0 then ao else bo) (fun i => if i = 0 then cap else bcap) (fun i x hx => ?_) (fun i x hx => ?_)
  · match i, hx with
    | 0, hx =>
      simp only [List.getElem?_cons_zero, Option.some.injEq] at hx
      subst hx
      refine ⟨b, 0, rfl, hlt, ?_, ?_, ?_, ?_, hs, free_of_blk hb _⟩ <;> (rw [cell_of_blk hb]; rfl)
    | 1, hx =>
      simp only [List.getElem?_cons_succ, List.getElem?_cons_zero, Option.some.injEq] at hx
      subst hx
      refine ⟨b, 0, rfl, hlt, ?_, ?_, ?_, ?_, hs', free_of_blk hb _⟩ <;> (rw [cell_of_blk hb]; rfl)
    | i + 2, hx => simp at hx
  · match i, hx with
    | 0, hx =>
      simp only [List.getElem?_cons_zero, Option.some.injEq] at hx
      subst hx
      exact hl.later ho
    | 1, hx =>
      simp only [List.getElem?_cons_succ, List.getElem?_cons_zero, Option.some.injEq] at hx
      subst hx
      exact hl'.later ho
    | i + 2, hx => simp at hx
theorem may_two (t u : T) (w : World) (ao bo : Option Addr) (cap bcap : Nat) (hl : Lies w ao t.l) (hs : t.Sane) (hok : t.Ok) (hl' : Lies w bo u.l) (hs' : u.Sane) (hok' : u.Ok) (w1 : World) (ho : Only (fun _ => False) w w1) (b : Nat) (hb : w1.heap[b]? = some (.cells #[.int .i64 t.k, .int .i64 t.n, .string t.s, .slice ao t.l.length cap, .int .i64 u.k, .int .i64 u.n, .string u.s, .slice bo u.l.length bcap] 24 (0, 0))) :
    Calls Try.prog 53 #[.slice (some ⟨b, 0, none⟩) 2 2] w1 fun e w' => e = .returned (.bool true) ∧ Only (fun _ => False) w1 w' := by
  refine (may_ok [t, u] w1 _ 2 (Row.two hl hs hl' hs' w1 ho b hb) (by simp) (fun x hx => ?_)).mono ?_
  · rcases List.mem_cons.1 hx with rfl | hx
    · exact hok
    · rw [List.mem_singleton.1 hx]; exact hok'
  · rintro e w' ⟨rfl, ho2⟩
    exact ⟨rfl, ho2⟩
theorem pair_world (w : World) (k n : Int) (s : ByteArray) (l : List T) (ao : Option Addr) (cap : Nat) (k' n' : Int) (s' : ByteArray) (l' : List T) (bo : Option Addr) (bcap : Nat) :
    (((w.alloc (.cells #[.int .i64 k, .int .i64 n, .string s, .slice ao l.length cap] 24)).alloc (.cells #[.int .i64 k', .int .i64 n', .string s', .slice bo l'.length bcap] 24)).alloc (.cells #[.int .i64 k, .int .i64 n, .string s, .slice ao l.length cap, .int .i64 k', .int .i64 n', .string s', .slice bo l'.length bcap] 24)).heap[w.heap.size + 1 + 1]? = some (.cells #[.int .i64 k, .int .i64 n, .string s, .slice ao l.length cap, .int .i64 k', .int .i64 n', .string s', .slice bo l'.length bcap] 24 (0, 0)) ∧ Only (fun _ => False) w (((w.alloc (.cells #[.int .i64 k, .int .i64 n, .string s, .slice ao l.length cap] 24)).alloc (.cells #[.int .i64 k', .int .i64 n', .string s', .slice bo l'.length bcap] 24)).alloc (.cells #[.int .i64 k, .int .i64 n, .string s, .slice ao l.length cap, .int .i64 k', .int .i64 n', .string s', .slice bo l'.length bcap] 24)) ∧ BoxAt w.heap.size k n s ao l.length cap (((w.alloc (.cells #[.int .i64 k, .int .i64 n, .string s, .slice ao l.length cap] 24)).alloc (.cells #[.int .i64 k', .int .i64 n', .string s', .slice bo l'.length bcap] 24)).alloc (.cells #[.int .i64 k, .int .i64 n, .string s, .slice ao l.length cap, .int .i64 k', .int .i64 n', .string s', .slice bo l'.length bcap] 24)) ∧ BoxAt (w.heap.size + 1) k' n' s' bo l'.length bcap (((w.alloc (.cells #[.int .i64 k, .int .i64 n, .string s, .slice ao l.length cap] 24)).alloc (.cells #[.int .i64 k', .int .i64 n', .string s', .slice bo l'.length bcap] 24)).alloc (.cells #[.int .i64 k, .int .i64 n, .string s, .slice ao l.length cap, .int .i64 k', .int .i64 n', .string s', .slice bo l'.length bcap] 24)) ∧ (((w.alloc (.cells #[.int .i64 k, .int .i64 n, .string s, .slice ao l.length cap] 24)).alloc (.cells #[.int .i64 k', .int .i64 n', .string s', .slice bo l'.length bcap] 24)).alloc (.cells #[.int .i64 k, .int .i64 n, .string s, .slice ao l.length cap, .int .i64 k', .int .i64 n', .string s', .slice bo l'.length bcap] 24)).heap.size = w.heap.size + 3 := by
  have h1 := BoxAt.new w k n s ao l.length cap
  have h2 := BoxAt.new (w.alloc (.cells #[.int .i64 k, .int .i64 n, .string s, .slice ao l.length cap] 24)) k' n' s' bo l'.length bcap
  unfold boxW at h1 h2
  refine ⟨?_, ((Only.alloc _ _ _).same (Only.alloc _ _ _)).same (Only.alloc _ _ _), h1.later ((Only.alloc _ _ _).same (Only.alloc _ _ _)), ?_, by simp⟩
  · have := heap_alloc_new ((w.alloc (.cells #[.int .i64 k, .int .i64 n, .string s, .slice ao l.length cap] 24)).alloc (.cells #[.int .i64 k', .int .i64 n', .string s', .slice bo l'.length bcap] 24)) (.cells #[.int .i64 k, .int .i64 n, .string s, .slice ao l.length cap, .int .i64 k', .int .i64 n', .string s', .slice bo l'.length bcap] 24)
    simpa using this
  · have := h2.later (Only.alloc (fun _ => False) _ (.cells #[.int .i64 k, .int .i64 n, .string s, .slice ao l.length cap, .int .i64 k', .int .i64 n', .string s', .slice bo l'.length bcap] 24))
    simpa using this
set_option maxRecDepth 100000 in
set_option maxHeartbeats 2000000 in
theorem Same_ok (t u : T) (w : World) (ao bo : Option Addr) (cap bcap : Nat) (hl : Lies w ao t.l) (hs : t.Sane) (hok : t.Ok) (hl' : Lies w bo u.l) (hs' : u.Sane) (hok' : u.Ok) :
    Calls Try.prog 30 #[tv t ao cap, tv u bo bcap] w fun e w' => e = .returned (.bool (t.eqb u)) ∧ Only (fun _ => False) w w' := by
  have HM := Lib.hid (may_two t u w ao bo cap bcap hl hs hok hl' hs' hok')
  have HI := Lib.hid (fun (w1 : World) (ho : Only (fun _ => False) w w1) => same_any t u w1 ao bo cap bcap (hl.later ho) hs (hl'.later ho) hs')
  obtain ⟨k, n, s, l⟩ := t
  obtain ⟨k', n', s', l'⟩ := u
  generalize (T.mk k n s l).eqb (T.mk k' n' s' l') = r at *
  show Calls Try.prog 30 #[.agg #[.int .i64 k, .int .i64 n, .string s, .slice ao l.length cap], .agg #[.int .i64 k', .int .i64 n', .string s', .slice bo l'.length bcap]] w _
  clear hl hs hok hl' hs' hok'
  go_enter Try.func30, Try.ntmps30
  go_wp2_with fail
  obtain ⟨hb, ho, hx, hy, hsz⟩ := pair_world w k n s l ao cap k' n' s' l' bo bcap
  generalize (((w.alloc (.cells #[.int .i64 k, .int .i64 n, .string s, .slice ao l.length cap] 24)).alloc (.cells #[.int .i64 k', .int .i64 n', .string s', .slice bo l'.length bcap] 24)).alloc (.cells #[.int .i64 k, .int .i64 n, .string s, .slice ao l.length cap, .int .i64 k', .int .i64 n', .string s', .slice bo l'.length bcap] 24)) = w1 at *
  refine (HM.out _ ho _ hb).mono ?_
  rintro e w2 ⟨rfl, ho2⟩
  have HO := Lib.hid (ho.same ho2)
  obtain ⟨d0, d1, d2, d3⟩ := (hx.later ho2).cells
  obtain ⟨e0, e1, e2, e3⟩ := (hy.later ho2).cells
  clear hb ho hx hy ho2 hsz
  go_wp2_with fail
  refine (HI.out _ HO.out).mono ?_
  rintro e w3 ⟨rfl, ho3⟩
  have HO3 := Lib.hid (HO.out.same ho3)
  clear ho3
  go_wp2_with fail
  go_ret
  exact ⟨rfl, HO3.out⟩
set_option maxRecDepth 100000 in
set_option maxHeartbeats 2000000 in
theorem Variant_ok (t u : T) (w : World) (ao bo : Option Addr) (cap bcap : Nat) (hl : Lies w ao t.l) (hs : t.Sane) (hok : t.Ok) (hl' : Lies w bo u.l) (hs' : u.Sane) (hok' : u.Ok) :
    Calls Try.prog 36 #[tv t ao cap, tv u bo bcap] w fun e w' => e = .returned (.bool ((renF t).1.eqb (renF u).1)) ∧ Only (fun _ => False) w w' := by
  have HM := Lib.hid (may_two t u w ao bo cap bcap hl hs hok hl' hs' hok')
  have HR1 := Lib.hid (fun (w1 : World) (ho : Only (fun _ => False) w w1) => rename_any t w1 ao cap (hl.later ho) hs hok.right (by have := hok.size; omega))
  have HR2 := Lib.hid (fun (w1 : World) (ho : Only (fun _ => False) w w1) => rename_any u w1 bo bcap (hl'.later ho) hs' hok'.right (by have := hok'.size; omega))
  obtain ⟨k, n, s, l⟩ := t
  obtain ⟨k', n', s', l'⟩ := u
  generalize renF (T.mk k n s l) = r at *
  generalize renF (T.mk k' n' s' l') = r' at *
  show Calls Try.prog 36 #[.agg #[.int .i64 k, .int .i64 n, .string s, .slice ao l.length cap], .agg #[.int .i64 k', .int .i64 n', .string s', .slice bo l'.length bcap]] w _
  clear hl hs hok hl' hs' hok'
  go_enter Try.func36, Try.ntmps36
  go_wp2_with fail
  obtain ⟨hb, ho, hx, hy, hsz⟩ := pair_world w k n s l ao cap k' n' s' l' bo bcap
  generalize (((w.alloc (.cells #[.int .i64 k, .int .i64 n, .string s, .slice ao l.length cap] 24)).alloc (.cells #[.int .i64 k', .int .i64 n', .string s', .slice bo l'.length bcap] 24)).alloc (.cells #[.int .i64 k, .int .i64 n, .string s, .slice ao l.length cap, .int .i64 k', .int .i64 n', .string s', .slice bo l'.length bcap] 24)) = w1 at *
  refine (HM.out _ ho _ hb).mono ?_
  rintro e w2 ⟨rfl, ho2⟩
  have HO := Lib.hid (ho.same ho2)
  have HX := Lib.hid (hx.later ho2)
  have HY := Lib.hid (hy.later ho2)
  obtain ⟨d0, d1, d2, d3⟩ := HX.out.cells
  have HSZ : Hid (w.heap.size + 3 ≤ w2.heap.size) := Lib.hid (by have := ho2.size; omega)
  clear hb ho hx hy ho2 hsz
  go_wp2_with fail
  refine (HR1.out _ HO.out).mono ?_
  rintro e w3 ⟨ao', cap', rfl, hrow, hsane, ho3⟩
  have HROW := Lib.hid hrow
  have HSA := Lib.hid hsane
  have HO3 := Lib.hid ho3
  have hq : Quad w.heap.size (.int .i64 k) (.int .i64 n) (.string s) (.slice ao l.length cap) w3 := HX.out.later ho3
  have hy3 := HY.out.later ho3
  have HY3 : Hid (Quad (w.heap.size + 1) (.int .i64 k') (.int .i64 n') (.string s') (.slice bo l'.length bcap) w3) := Lib.hid hy3
  obtain ⟨c0, c1, c2, c3⟩ := hq.cells
  obtain ⟨f0, f1, f2, f3⟩ := hq.free
  obtain ⟨e0, e1, e2, e3⟩ := hy3.cells
  have HS3 := Lib.hid (hq.set (.int .i64 r.1.k) (.int .i64 r.1.n) (.string r.1.s) (.slice ao' r.1.l.length cap'))
  have HZ3 : Hid (w.heap.size + 3 ≤ w3.heap.size) := Lib.hid (by have := ho3.size; have := HSZ.out; omega)
  have HOW3 := Lib.hid (HO.out.same ho3)
  clear hrow hsane ho3 hq hy3 d0 d1 d2 d3 HX HY HR1 HM
  go_wp2_with fail
  have hrow4 : Row (fun q => w2.heap.size ≤ q ∧ q < w3.heap.size) ((((w3.setCell ⟨w.heap.size, 0, none⟩ (.int .i64 r.1.k)).setCell ⟨w.heap.size, 1, none⟩ (.int .i64 r.1.n)).setCell ⟨w.heap.size, 2, none⟩ (.string r.1.s)).setCell ⟨w.heap.size, 3, none⟩ (.slice ao' r.1.l.length cap')) ao' r.1.l := HROW.out.only HS3.out.2 (fun q hq => hq.2) (fun q hq e => by have := hq.1; have := HSZ.out; omega)
  have hq4 : Quad w.heap.size (.int .i64 r.1.k) (.int .i64 r.1.n) (.string r.1.s) (.slice ao' r.1.l.length cap') ((((w3.setCell ⟨w.heap.size, 0, none⟩ (.int .i64 r.1.k)).setCell ⟨w.heap.size, 1, none⟩ (.int .i64 r.1.n)).setCell ⟨w.heap.size, 2, none⟩ (.string r.1.s)).setCell ⟨w.heap.size, 3, none⟩ (.slice ao' r.1.l.length cap')) := HS3.out.1
  have hy4 : Quad (w.heap.size + 1) (.int .i64 k') (.int .i64 n') (.string s') (.slice bo l'.length bcap) ((((w3.setCell ⟨w.heap.size, 0, none⟩ (.int .i64 r.1.k)).setCell ⟨w.heap.size, 1, none⟩ (.int .i64 r.1.n)).setCell ⟨w.heap.size, 2, none⟩ (.string r.1.s)).setCell ⟨w.heap.size, 3, none⟩ (.slice ao' r.1.l.length cap')) := HY3.out.only HS3.out.2 (by omega)
  have ho4 : Only (fun _ => False) w ((((w3.setCell ⟨w.heap.size, 0, none⟩ (.int .i64 r.1.k)).setCell ⟨w.heap.size, 1, none⟩ (.int .i64 r.1.n)).setCell ⟨w.heap.size, 2, none⟩ (.string r.1.s)).setCell ⟨w.heap.size, 3, none⟩ (.slice ao' r.1.l.length cap')) := Only.cut HOW3.out HS3.out.2 (fun k e => by omega)
  have hz4 : w3.heap.size ≤ ((((w3.setCell ⟨w.heap.size, 0, none⟩ (.int .i64 r.1.k)).setCell ⟨w.heap.size, 1, none⟩ (.int .i64 r.1.n)).setCell ⟨w.heap.size, 2, none⟩ (.string r.1.s)).setCell ⟨w.heap.size, 3, none⟩ (.slice ao' r.1.l.length cap')).heap.size := HS3.out.2.size
  generalize (((w3.setCell ⟨w.heap.size, 0, none⟩ (.int .i64 r.1.k)).setCell ⟨w.heap.size, 1, none⟩ (.int .i64 r.1.n)).setCell ⟨w.heap.size, 2, none⟩ (.string r.1.s)).setCell ⟨w.heap.size, 3, none⟩ (.slice ao' r.1.l.length cap') = w4 at *
  refine (HR2.out _ ho4).mono ?_
  rintro e w5 ⟨bo', bcap', rfl, hrow5, hsane5, ho5⟩
  have HR4 := Lib.hid ((hrow4.only ho5 (fun q hq => by have := hq.2; omega) (fun _ _ e => e)))
  have HR5 := Lib.hid hrow5
  have HSB := Lib.hid hsane5
  have hq5 := hq4.only (S := fun _ => False) ho5 (fun e => e)
  have HQ5 := Lib.hid hq5
  have HW5 := Lib.hid (ho4.same ho5)
  have hy5 := hy4.only (S := fun _ => False) ho5 (fun e => e)
  obtain ⟨c0, c1, c2, c3⟩ := hq5.cells
  obtain ⟨f0, f1, f2, f3⟩ := hy5.free
  obtain ⟨e0, e1, e2, e3⟩ := hy5.cells
  have HS5 := Lib.hid (hy5.set (.int .i64 r'.1.k) (.int .i64 r'.1.n) (.string r'.1.s) (.slice bo' r'.1.l.length bcap'))
  have HZ5 : Hid (w3.heap.size ≤ w4.heap.size ∧ w4.heap.size ≤ w5.heap.size) := Lib.hid ⟨hz4, ho5.size⟩
  clear hrow4 hq4 hy4 ho4 hz4 hrow5 hsane5 ho5 hq5 hy5 HROW HS3 HR2
  go_wp2_with fail
  have o6 := HS5.out.2
  refine (same_any r.1 r'.1 _ ao' bo' cap' bcap' ((HR4.out.only o6 (fun q hq => by have := hq.2; have := HZ5.out; omega) (fun q hq e => by have := hq.1; have := HSZ.out; omega)).mono (fun q hq => by have := hq.2; have := HZ5.out; have := o6.size; omega)) HSA.out ((HR5.out.only o6 (fun q hq => hq.2) (fun q hq e => by have := hq.1; have := HZ5.out; have := HZ3.out; omega)).mono (fun q hq => Nat.lt_of_lt_of_le hq.2 o6.size)) HSB.out).mono ?_
  rintro e w7 ⟨rfl, ho7⟩
  have HO7 : Hid (Only (fun _ => False) w w7) := Lib.hid ((Only.cut HW5.out o6 (fun k e => by omega)).same ho7)
  clear ho7 o6
  go_wp2_with fail
  go_ret
  exact ⟨rfl, HO7.out⟩
end
end Go.Proofs.Ytdpbbcjlbnangaa.terms
/- Terms: lists' items. -/
namespace Go.Proofs.Ytdpbbcjlbnangaa.terms
section
open Go.RowKit Go.Proofs.Ytdpbbcjlbnangaa.own Go.Maps
def T.pair (t : T) : Bool := (t.k == 4) && (decide (t.s.toList = [46]) && decide (t.l.length = 2))
theorem T.pair_iff {t : T} : t.pair = true ↔ t.k = 4 ∧ t.s.toList = [46] ∧ t.l.length = 2 := by
  unfold T.pair
  simp
theorem T.pair_list {t : T} (h : t.pair = true) : ∃ x y, t.l = [x, y] := by
  have h2 := (T.pair_iff.1 h).2.2
  match hl : t.l, h2 with
  | [x, y], _ => exact ⟨x, y, rfl⟩
theorem depth_last {t : T} {x y : T} (h : t.l = [x, y]) : y.depth < t.depth := by
  obtain ⟨k, n, s, l⟩ := t
  simp only [T.l] at h
  subst h
  show y.depth < depths [x, y] + 1
  have := depth_mem (l := [x, y]) (x := y) (by simp)
  omega
def itemsF (t : T) : List T × T :=
  if t.pair = true then
    match h : t.l with
    | [x, y] => (x :: (itemsF y).1, (itemsF y).2)
    | _ => ([], t)
  else ([], t)
termination_by t.depth
decreasing_by all_goals exact depth_last h
theorem itemsF_end {t : T} (h : t.pair = false) : itemsF t = ([], t) := by
  rw [itemsF, if_neg (by rw [h]; decide)]
theorem itemsF_pair {t x y : T} (h : t.pair = true) (hl : t.l = [x, y]) : itemsF t = (x :: (itemsF y).1, (itemsF y).2) := by
  rw [itemsF, if_pos h]
  split
  · rename_i x' y' h'
    rw [hl] at h'
    cases h'
    rfl
  · rename_i h'
    exact absurd hl (h' x y)
set_option maxRecDepth 100000 in
set_option maxHeartbeats 1000000 in
theorem isPair_any (t : T) (w : World) (ao : Option Addr) (cap : Nat) (hs : t.Sane) : Calls Try.prog 67 #[tv t ao cap] w fun e w' => e = .returned (.bool t.pair) ∧ Only (fun _ => False) w w' := by
  obtain ⟨k, n, s, l⟩ := t
  have hl := hs.l
  unfold maxLen at hl
  show Calls Try.prog 67 #[.agg #[.int .i64 k, .int .i64 n, .string s, .slice ao l.length cap]] w fun e w' => e = .returned (.bool ((k == 4) && (decide (s.toList = [46]) && decide (l.length = 2)))) ∧ _
  simp only [T.l] at hl
  clear hs
  by_cases h1 : k = 4
  · subst h1
    by_cases h2 : s.toList = [46]
    · by_cases h3 : l.length = 2
      · have h4 : ((l.length : Int) == 2) = true := by simp [h3]
        have HE : Hid (((4 : Int) == 4 && (decide (s.toList = [46]) && decide (l.length = 2))) = true) := Lib.hid (by simp [h2, h3])
        clear h3
        go_enter Try.func67, Try.ntmps67
        go_wp2_with fail
        go_ret
        exact ⟨retb (by rw [HE.out]), Only.alloc _ _ _⟩
      · have h4 : ((l.length : Int) == 2) = false := by simp; omega
        have HE : Hid (((4 : Int) == 4 && (decide (s.toList = [46]) && decide (l.length = 2))) = false) := Lib.hid (by simp [h3])
        clear h3
        go_enter Try.func67, Try.ntmps67
        go_wp2_with fail
        go_ret
        exact ⟨retb (by rw [HE.out]), Only.alloc _ _ _⟩
    · have HE : Hid (((4 : Int) == 4 && (decide (s.toList = [46]) && decide (l.length = 2))) = false) := Lib.hid (by simp [h2])
      go_enter Try.func67, Try.ntmps67
      go_wp2_with fail
      go_ret
      exact ⟨retb (by rw [HE.out]), Only.alloc _ _ _⟩
  · have HE : Hid ((k == 4 && (decide (s.toList = [46]) && decide (l.length = 2))) = false) := Lib.hid (by simp [h1])
    go_enter Try.func67, Try.ntmps67
    go_wp2_with fail
    go_ret
    exact ⟨retb (by rw [HE.out]), Only.alloc _ _ _⟩
end
end Go.Proofs.Ytdpbbcjlbnangaa.terms
/- Terms: Items. -/
namespace Go.Proofs.Ytdpbbcjlbnangaa.terms
section
open Go.RowKit Go.Proofs.Ytdpbbcjlbnangaa.own Go.Maps
theorem T.Ok.sub {t x : T} (h : t.Ok) (hx : x ∈ t.l) : x.Ok := by
  obtain ⟨k, n, s, l⟩ := t
  simp only [T.l] at hx
  have h1 := h.right
  rw [T.right_eq, Bool.and_eq_true] at h1
  have h2 := h.depth
  have h3 := h.size
  have h4 := depth_mem hx
  have h5 := size_mem hx
  have e2 : (T.mk k n s l).depth = depths l + 1 := rfl
  have e3 : (T.mk k n s l).size = 1 + sizes l := rfl
  exact ⟨rights_iff.1 h1.2 x hx, by omega, by omega⟩
/-- Items' loop under way: the items so far, and what is left of the list. -/
structure ItmI (w : World) (t : T) (its : List It) (oo : Option Addr) (oc : Nat) (u : T) (uo : Option Addr) (uc : Nat) (wr : World) : Prop where
  box : Quad w.heap.size (.int .i64 u.k) (.int .i64 u.n) (.string u.s) (.slice uo u.l.length uc) wr
  res : Quad (w.heap.size + 1) (.int .i64 0) (.int .i64 0) (.string ⟨#[]⟩) (.slice none 0 0) wr
  own : Only (fun _ => False) w wr
  lies : Lies w uo u.l
  sane : u.Sane
  ok : u.Ok
  row : ItsP (w.heap.size + 3) oo oc its wr
  subs : ∀ (i : Nat) (x : It), its[i]? = some x → x.t.Sane ∧ Row (fun q => w.heap.size + 3 ≤ q ∧ q < wr.heap.size ∧ ¬ RowAt oo q) wr x.ao x.t.l
  eq : itemsF t = (its.map (·.t) ++ (itemsF u).1, (itemsF u).2)
  len : its.length + u.depth ≤ t.depth
  size : w.heap.size + 3 ≤ wr.heap.size
theorem ItmI.later {w : World} {t : T} {its : List It} {oo : Option Addr} {oc : Nat} {u : T} {uo : Option Addr} {uc : Nat} {wr w' : World} (h : ItmI w t its oo oc u uo uc wr) (ho : Only (fun _ => False) wr w') : ItmI w t its oo oc u uo uc w' :=
  { h with
    box := h.box.only ho (fun e => e)
    res := h.res.only ho (fun e => e)
    own := h.own.same ho
    row := h.row.only ho (fun _ _ e => e)
    subs := fun i x hx => ⟨(h.subs i x hx).1, ((h.subs i x hx).2.only ho (fun q hq => hq.2.1) (fun _ _ e => e)).mono (fun q hq => ⟨hq.1, Nat.lt_of_lt_of_le hq.2.1 ho.size, hq.2.2⟩)⟩
    size := Nat.le_trans h.size ho.size }
/-- An item more: it was copied, put behind the others; what is left is in the box. -/
theorem ItmI.step {w : World} {t : T} {its : List It} {oo oo' : Option Addr} {oc oc' : Nat} {u x y : T} {uo yo : Option Addr} {uc yc : Nat} {w1 w2 w3 w4 : World} {co : Option Addr} {cc : Nat}
    (h : ItmI w t its oo oc u uo uc w1) (hp : u.pair = true) (hl : u.l = [x, y]) (hxs : x.Sane) (hrow : Row (fun q => w1.heap.size ≤ q ∧ q < w2.heap.size) w2 co x.l) (ho2 : Only (fun _ => False) w1 w2)
    (hr3 : ItsP (w.heap.size + 3) oo' oc' (its ++ [⟨x, co, cc⟩]) w3) (ho3 : Only (RowAt oo) w2 w3) (hnew : NewRow w2.heap.size oo oo') (hys : y.Sane) (hyl : Lies w yo y.l)
    (hq4 : Quad w.heap.size (.int .i64 y.k) (.int .i64 y.n) (.string y.s) (.slice yo y.l.length yc) w4) (ho4 : Only (· = w.heap.size) w3 w4) :
    ItmI w t (its ++ [⟨x, co, cc⟩]) oo' oc' y yo yc w4 := by
  have hhead := h.row.head
  have hoo : ∀ k, RowAt oo k → w.heap.size + 3 ≤ k ∧ k < w1.heap.size := by
    rintro k ⟨g, hg, rfl⟩
    exact (hhead g hg).2
  have s1 := ho2.size
  have s2 := ho3.size
  have s3 := ho4.size
  have hsz := h.size
  have hnr : ∀ q, w.heap.size + 3 ≤ q → q < w2.heap.size → ¬ RowAt oo q → ¬ RowAt oo' q := by
    rintro q h1 h2 h3 ⟨g, hg, rfl⟩
    rcases hnew g hg with e | e
    · exact h3 ⟨g, e, rfl⟩
    · omega
  refine ⟨hq4, ((h.res.only ho2 (fun e => e)).only ho3 (fun e => by have := hoo _ e; omega)).only ho4 (by omega), ?_, hyl, hys, h.ok.sub (by rw [hl]; simp), ?_, fun i z hz => ?_, ?_, ?_, by omega⟩
  · exact Only.cut (Only.cut (h.own.same ho2) ho3 (fun k e => by have := hoo k e; omega)) ho4 (fun k e => by omega)
  · refine hr3.only ho4 (fun g hg e => ?_)
    have := (hr3.head g hg).2.1
    omega
  · by_cases hi : i < its.length
    · rw [List.getElem?_append_left hi] at hz
      have hsub := h.subs i z hz
      refine ⟨hsub.1, ((((hsub.2.only ho2 (fun q hq => hq.2.1) (fun _ _ e => e)).only ho3 (fun q hq => by have := hq.2.1; omega) (fun q hq => hq.2.2)).only ho4 (fun q hq => by have := hq.2.1; omega) (fun q hq e => by have := hq.1; omega)).mono (fun q hq => ⟨hq.1, by have := hq.2.1; omega, hnr q hq.1 (by have := hq.2.1; omega) hq.2.2⟩))⟩
    · rw [List.getElem?_append_right (by omega)] at hz
      have hi0 : i - its.length = 0 := by
        cases hc : i - its.length with
        | zero => rfl
        | succ m => rw [hc] at hz; simp at hz
      rw [hi0] at hz
      simp only [List.getElem?_cons_zero, Option.some.injEq] at hz
      subst hz
      have hno : ∀ q, w1.heap.size ≤ q → ¬ RowAt oo q := fun q hq e => by have := hoo q e; omega
      refine ⟨hxs, (((hrow.only ho3 (fun q hq => hq.2) (fun q hq => hno q hq.1)).only ho4 (fun q hq => by have := hq.2; omega) (fun q hq e => by have := hq.1; omega)).mono (fun q hq => ⟨by have := hq.1; omega, by have := hq.2; omega, hnr q (by have := hq.1; omega) hq.2 (hno q hq.1)⟩))⟩
  · rw [h.eq, itemsF_pair hp hl]
    simp
  · have := h.len
    have := depth_last hl
    simp only [List.length_append, List.length_cons, List.length_nil]
    omega
end
end Go.Proofs.Ytdpbbcjlbnangaa.terms
/- Terms: Items. -/
namespace Go.Proofs.Ytdpbbcjlbnangaa.terms
section
open Go.RowKit Go.Proofs.Ytdpbbcjlbnangaa.own Go.Maps
theorem ItsP.rowAny {P : Nat → Prop} {B cap : Nat} {oo : Option Addr} {xs : List It} {w : World} (h : ItsP B oo cap xs w) (hP : ∀ q, B ≤ q → q < w.heap.size → P q) (hs : ∀ (i : Nat) (x : It), xs[i]? = some x → x.t.Sane ∧ Row P w x.ao x.t.l) : Row P w oo (xs.map (·.t)) := by
  cases xs with
  | nil => exact Row.nil _ _ _
  | cons x r =>
    obtain ⟨g, hg, hB, _⟩ := h.at liesIt 0 x rfl
    have := (h.head _ hg).2
    subst hg
    exact h.row (hP g this.1 this.2) hs
theorem results_tmp_cell {fn : Func} {p u : Tmp} {ty : TypeId} (h : fn.results = #[.tmp u, .cell p ty]) (tmps : Array Value) (P : Program) (w : World) :
    (results fn tmps).run P w =
      ((asAddr (tmps.getD p undef)).run P w).andThen fun a w₁ => ((loadVar ty a).run P w₁).andThen fun v w₂ => .ok (.tuple #[tmps.getD u undef, v]) w₂ := by
  simp only [results, h]
  simp [Sem.run_bind, Result.andThen]
theorem results_tmp_term {fn : Func} {p u : Tmp} (h : fn.results = #[.tmp u, .cell p 24]) (tmps : Array Value) (w : World) (b : Nat) (x0 x1 x2 x3 x4 : Value) (ha : tmps.getD p undef = .pointer (some ⟨b, 0, none⟩)) (hu : tmps.getD u undef = x4) (h0 : w.cell? ⟨b, 0, none⟩ = some x0) (h1 : w.cell? ⟨b, 1, none⟩ = some x1) (h2 : w.cell? ⟨b, 2, none⟩ = some x2) (h3 : w.cell? ⟨b, 3, none⟩ = some x3) :
    (results fn tmps).run Try.prog w = .ok (.tuple #[x4, .agg #[x0, x1, x2, x3]]) w := by
  rw [results_tmp_cell h, ha, hu]
  go_simp
set_option maxRecDepth 100000 in
set_option maxHeartbeats 4000000 in
theorem Items_ok (t : T) (w : World) (ao : Option Addr) (cap : Nat) (hl : Lies w ao t.l) (hs : t.Sane) (hok : t.Ok) : Calls Try.prog 38 #[tv t ao cap] w fun e w' => ∃ oo oc ao' cap', e = .returned (.tuple #[.slice oo (itemsF t).1.length oc, tv (itemsF t).2 ao' cap']) ∧ Row (fun k => w.heap.size ≤ k ∧ k < w'.heap.size) w' oo (itemsF t).1 ∧ Row (fun k => w.heap.size ≤ k ∧ k < w'.heap.size) w' ao' (itemsF t).2.l ∧ (itemsF t).2.Sane ∧ (itemsF t).1.length ≤ 200 ∧ Only (fun _ => False) w w' := by
  have HM := Lib.hid (may_one t w ao cap hl hs hok)
  have HLL := Lib.hid hl
  have HSS := Lib.hid hs
  have HOK := Lib.hid hok
  obtain ⟨i0, hi, hz0, hz1, hz2⟩ := info_parts infoT
  show Calls Try.prog 38 #[.agg #[.int .i64 t.k, .int .i64 t.n, .string t.s, .slice ao t.l.length cap]] w _
  clear hl hs hok
  go_enter Try.func38, Try.ntmps38
  go_wp2_with fail
  have hb : (((w.alloc (.cells #[.int .i64 t.k, .int .i64 t.n, .string t.s, .slice ao t.l.length cap] 24)).alloc (.cells #[.int .i64 0, .int .i64 0, .string ⟨#[]⟩, .slice none 0 0] 24)).alloc (.cells #[.int .i64 t.k, .int .i64 t.n, .string t.s, .slice ao t.l.length cap] 24)).heap[w.heap.size + 1 + 1]? = some (.cells #[.int .i64 t.k, .int .i64 t.n, .string t.s, .slice ao t.l.length cap] 24 (0, 0)) := by
    have := heap_alloc_new ((w.alloc (.cells #[.int .i64 t.k, .int .i64 t.n, .string t.s, .slice ao t.l.length cap] 24)).alloc (.cells #[.int .i64 0, .int .i64 0, .string ⟨#[]⟩, .slice none 0 0] 24)) (.cells #[.int .i64 t.k, .int .i64 t.n, .string t.s, .slice ao t.l.length cap] 24)
    simpa using this
  have ho : Only (fun _ => False) w (((w.alloc (.cells #[.int .i64 t.k, .int .i64 t.n, .string t.s, .slice ao t.l.length cap] 24)).alloc (.cells #[.int .i64 0, .int .i64 0, .string ⟨#[]⟩, .slice none 0 0] 24)).alloc (.cells #[.int .i64 t.k, .int .i64 t.n, .string t.s, .slice ao t.l.length cap] 24)) := ((Only.alloc _ _ _).same (Only.alloc _ _ _)).same (Only.alloc _ _ _)
  have hbx : BoxAt w.heap.size t.k t.n t.s ao t.l.length cap (((w.alloc (.cells #[.int .i64 t.k, .int .i64 t.n, .string t.s, .slice ao t.l.length cap] 24)).alloc (.cells #[.int .i64 0, .int .i64 0, .string ⟨#[]⟩, .slice none 0 0] 24)).alloc (.cells #[.int .i64 t.k, .int .i64 t.n, .string t.s, .slice ao t.l.length cap] 24)) := (BoxAt.new w t.k t.n t.s ao t.l.length cap).later ((Only.alloc _ _ _).same (Only.alloc _ _ _))
  have hq : Quad (w.heap.size + 1) (.int .i64 0) (.int .i64 0) (.string ⟨#[]⟩) (.slice none 0 0) (((w.alloc (.cells #[.int .i64 t.k, .int .i64 t.n, .string t.s, .slice ao t.l.length cap] 24)).alloc (.cells #[.int .i64 0, .int .i64 0, .string ⟨#[]⟩, .slice none 0 0] 24)).alloc (.cells #[.int .i64 t.k, .int .i64 t.n, .string t.s, .slice ao t.l.length cap] 24)) := by
    have h1 := heap_alloc_new (w.alloc (.cells #[.int .i64 t.k, .int .i64 t.n, .string t.s, .slice ao t.l.length cap] 24)) (.cells #[.int .i64 0, .int .i64 0, .string ⟨#[]⟩, .slice none 0 0] 24)
    have h2 : Quad (w.heap.size + 1) (.int .i64 0) (.int .i64 0) (.string ⟨#[]⟩) (.slice none 0 0) ((w.alloc (.cells #[.int .i64 t.k, .int .i64 t.n, .string t.s, .slice ao t.l.length cap] 24)).alloc (.cells #[.int .i64 0, .int .i64 0, .string ⟨#[]⟩, .slice none 0 0] 24)) := by
      unfold Quad
      simpa using h1
    exact h2.only (Only.alloc (fun _ => False) _ _) (fun e => e)
  have hsz : w.heap.size + 3 = (((w.alloc (.cells #[.int .i64 t.k, .int .i64 t.n, .string t.s, .slice ao t.l.length cap] 24)).alloc (.cells #[.int .i64 0, .int .i64 0, .string ⟨#[]⟩, .slice none 0 0] 24)).alloc (.cells #[.int .i64 t.k, .int .i64 t.n, .string t.s, .slice ao t.l.length cap] 24)).heap.size := by simp
  refine (HM.out _ ho _ hb).mono ?_
  rintro e w1 ⟨rfl, ho1⟩
  have HO := Lib.hid (ho.same ho1)
  have HQ := Lib.hid (hq.only ho1 (fun e => e))
  have HSZ : Hid (w.heap.size + 3 ≤ w1.heap.size) := Lib.hid (by have := ho1.size; omega)
  have hbx1 := hbx.later ho1
  have HI0 : Hid (ItmI w t [] none 0 t ao cap w1) := Lib.hid ⟨hbx1, hq.only ho1 (fun e => e), ho.same ho1, HLL.out, HSS.out, HOK.out, RowOf.nil _ _ _ _ _, fun i x hx => by simp at hx, by simp, by simp, HSZ.out⟩
  clear hb ho hbx ho1 hq hsz
  clear hbx1
  go_wp2_with fail
  go_loopw [4] (fun v wr => ∃ its oo oc u uo uc, v = .slice oo its.length oc ∧ Hid (ItmI w t its oo oc u uo uc wr)) (fun v _ => match v with | .slice _ m _ => t.depth - m | _ => 0)
  case atStart => exact ⟨[], none, 0, t, ao, cap, rfl, HI0⟩
  case round =>
    obtain ⟨its, oo, oc, u, uo, uc, rfl, hI⟩ := hrel
    clear HI0
    obtain ⟨c0, c1, c2, c3⟩ := hI.out.box.cells
    go_wp2_with fail
    refine (isPair_any u _ uo uc hI.out.sane).mono ?_
    rintro e w2 ⟨rfl, ho2⟩
    have HI2 := Lib.hid (hI.out.later ho2)
    clear ho2 c0 c1 c2 c3
    cases hp : u.pair with
    | false =>
      have HP := Lib.hid hp
      clear hp
      obtain ⟨c0, c1, c2, c3⟩ := HI2.out.box.cells
      go_wp2_with fail
      refine (clone_any u w2 uo uc (HI2.out.lies.later HI2.out.own) HI2.out.sane HI2.out.ok.right (by have := HI2.out.ok.size; omega)).mono ?_
      rintro e w3 ⟨ao', cap', rfl, hrow, ho3⟩
      have HI3 := Lib.hid (HI2.out.later ho3)
      have HROW := Lib.hid hrow
      have HZ2 := Lib.hid HI2.out.size
      have hq3 := HI3.out.res
      have HS3 := Lib.hid (hq3.set (.int .i64 u.k) (.int .i64 u.n) (.string u.s) (.slice ao' u.l.length cap'))
      obtain ⟨c0, c1, c2, c3⟩ := hq3.cells
      obtain ⟨f0, f1, f2, f3⟩ := hq3.free
      clear hrow ho3 hq3
      go_wp2_with fail
      have hc := HS3.out.1.cells
      refine bodyPost_ret (v := .tuple #[.slice oo its.length oc, tv u ao' cap']) (results_tmp_term rfl _ _ (w.heap.size + 1) _ _ _ _ _ rfl rfl hc.1 hc.2.1 hc.2.2.1 hc.2.2.2) rfl ?_
      have he := HI3.out.eq
      rw [itemsF_end HP.out, List.append_nil] at he
      rw [he]
      have hlen := HI3.out.len
      have hd : 1 ≤ u.depth := by rw [T.depth_eq]; omega
      have hdt := HOK.out.depth
      have o4 := HS3.out.2
      refine ⟨oo, oc, ao', cap', by simp, ?_, ?_, HI3.out.sane, by simp; omega, Only.cut HI3.out.own o4 (fun k e => by omega)⟩
      · refine (((HI3.out.row.rowAny (P := fun q => w.heap.size + 3 ≤ q ∧ q < w3.heap.size) (fun q h1 h2 => ⟨h1, h2⟩) (fun i x hx => ⟨(HI3.out.subs i x hx).1, (HI3.out.subs i x hx).2.mono (fun q hq => ⟨hq.1, hq.2.1⟩)⟩)).only o4 (fun q hq => hq.2) (fun q hq e => by have := hq.1; omega)).mono (fun q hq => ⟨by have := hq.1; omega, Nat.lt_of_lt_of_le hq.2 o4.size⟩))
      · refine (HROW.out.only o4 (fun q hq => hq.2) (fun q hq e => ?_)).mono (fun q hq => ⟨?_, Nat.lt_of_lt_of_le hq.2 o4.size⟩)
        · have := hq.1; have := HZ2.out; omega
        · have := hq.1; have := HZ2.out; omega
    | true =>
      obtain ⟨x, y, hxy⟩ := T.pair_list hp
      have HP := Lib.hid hp
      have HXY := Lib.hid hxy
      have hl2 : u.l.length = 2 := by rw [hxy]; rfl
      obtain ⟨b, off, xo, xc, huo, hb, x0, x1, x2, x3, hxs, hxl⟩ := (HI2.out.lies.later HI2.out.own).at (i := 0) (x := x) (by rw [hxy]; rfl)
      subst huo
      have HXS := Lib.hid hxs
      have HXL := Lib.hid hxl
      obtain ⟨c0, c1, c2, c3⟩ := HI2.out.box.cells
      rw [hl2] at c3
      have HL2 := Lib.hid hl2
      simp only [Nat.zero_mul, Nat.add_zero] at x0 x1 x2 x3
      clear hp hxy hl2 hxs hxl
      go_wp2_with fail
      refine (clone_any x w2 xo xc HXL.out HXS.out (HI2.out.ok.sub (by rw [HXY.out]; simp)).right (by have := (HI2.out.ok.sub (x := x) (by rw [HXY.out]; simp)).size; omega)).mono ?_
      rintro e w3 ⟨co, cc, rfl, hrow, ho3⟩
      have HROW := Lib.hid hrow
      have HO3 := Lib.hid ho3
      have HI3 := Lib.hid (HI2.out.later ho3)
      clear hrow ho3 c0 c1 c2 c3 x0 x1 x2 x3
      go_wp2_with (first
        | (at_builtin; refine wp_append_one liesIt rfl (.tmp 12) (.tmp 18) 22 rfl (w.heap.size + 3) 24 i0 _ 56 Try.underlying22 hi hz0 hz1 hz2 rfl (by omega) w3 oo oc its ⟨x, co, cc⟩ [.int .i64 x.k, .int .i64 x.n, .string x.s, .slice co x.l.length cc] rfl rfl HI3.out.row rfl (by have := HI3.out.len; have := HOK.out.depth; omega) HI3.out.size ?_; intro oo' oc' w4 hrow4 ho4 hnew4
           have HR4 := Lib.hid hrow4; have HO4 := Lib.hid ho4; have HNEW := Lib.hid hnew4
           have hno : ¬ RowAt oo w.heap.size := (by rintro ⟨g, hg, e⟩; have := (HI3.out.row.head g hg).2.1; omega)
           have hq4 : Quad w.heap.size (.int .i64 u.k) (.int .i64 u.n) (.string u.s) (.slice (some ⟨b, off, none⟩) u.l.length uc) w4 := HI3.out.box.only ho4 hno
           have hown4 : Only (fun _ => False) w w4 := Only.cut HI3.out.own ho4 (by rintro k ⟨g, hg, e⟩; have := (HI3.out.row.head g hg).2.1; omega)
           have hlies4 := HI3.out.lies.later hown4
           have HOWN4 := Lib.hid hown4
           obtain ⟨c0, c1, c2, c3⟩ := hq4.cells
           obtain ⟨f0, f1, f2, f3⟩ := hq4.free
           have HQ4 := Lib.hid hq4
           rw [HL2.out] at c3
           obtain ⟨b', off', yo, yc, huo', hb', y0, y1, y2, y3, hys, hyl⟩ := hlies4.at (i := 1) (x := y) (by rw [HXY.out]; rfl)
           cases huo'
           obtain ⟨b2, off2, yo2, yc2, huo2, hb2, z0, z1, z2, z3, hys2, hyl2⟩ := HI3.out.lies.at (i := 1) (x := y) (by rw [HXY.out]; rfl)
           cases huo2
           have hyo : yo2 = yo ∧ yc2 = yc := (by
             have e3 := (hown4.cell (p := ⟨b, off + 1 * 4 + 3, none⟩) hb2 (fun e => e)).trans z3
             rw [y3] at e3
             simp only [Option.some.injEq, Value.slice.injEq] at e3
             exact ⟨e3.1.symm, e3.2.2.symm⟩)
           obtain ⟨rfl, rfl⟩ := hyo
           simp only [Nat.one_mul] at y0 y1 y2 y3
           have HYS := Lib.hid hys
           have HYL := Lib.hid hyl2
           have HST := Lib.hid (hq4.set (.int .i64 y.k) (.int .i64 y.n) (.string y.s) (.slice yo2 y.l.length yc2))
           clear hrow4 ho4 hnew4 hq4 hown4 hlies4 hys hyl z0 z1 z2 z3 hys2 hyl2 hb' hb2)
        | fail)
      have HI5 := Lib.hid (ItmI.step HI2.out HP.out HXY.out HXS.out HROW.out HO3.out HR4.out HO4.out HNEW.out HYS.out HYL.out HST.out.1 HST.out.2)
      go_roundw
      case rel => exact ⟨_, oo', oc', y, yo2, yc2, by simp, HI5⟩
      case measure => have := HI5.out.len; simp at this ⊢; omega
end
end Go.Proofs.Ytdpbbcjlbnangaa.terms
