/- Clauses by generations: any clause, with goals, is added. -/
import Derived.Test.YthfilpacmllhpabBas27
import Derived.BigQuiet
namespace Go.Proofs.Ythfilpacmllhpab.bases
set_option maxRecDepth 100000
open Go.RowKit Go.Proofs.Ythfilpacmllhpab.own Go.Lib Go.Maps Go.WideMaps Go.Proofs.Ythfilpacmllhpab.idx Go.Proofs.Ythfilpacmllhpab.terms
theorem src_only {S : Nat → Prop} {co : Option Addr} {is : List In} {w w' : World} (h : SrcOf encI w co is) (o : Only S w w') (hb : ∀ ad, co = some ad → is ≠ [] → ad.block < w.heap.size ∧ ¬ S ad.block) : SrcOf encI w' co is := by
  by_cases he : is = []
  · subst he; exact ⟨fun _ => rfl, fun ad e j u hu => by simp at hu⟩
  · exact h.only o (fun ad e => hb ad e he)
set_option maxHeartbeats 4000000 in
theorem clone_all (co : Option Addr) (cc : Nat) (is : List In) (w : World) (hc : co = none → cc = 0) (h : SrcOf encI w co is) (hb : ∀ ad, co = some ad → is ≠ [] → ad.block < w.heap.size) (hl : is.length ≤ 100000) :
    Calls Try.prog 38 #[.slice co is.length cc] w fun e w' => ∃ a c, e = .returned (.slice a is.length c) ∧ RowI w.heap.size a c is w' ∧ Only (fun _ => False) w w' := by
  cases hco : co with
  | none =>
    rw [hco] at h
    have hy := h.1 rfl
    subst hy
    rw [hc hco]
    simp only [List.length_nil]
    have hnil : (binOp .eql 35 (.slice none 0 0) (.slice none 0 0)).run Try.prog w = .ok (.bool true) w := by first | rfl | simp [binOp]
    go_enter Try.func38, Try.ntmps38
    go_wp2_with fail
    go_ret
    exact ⟨none, 0, rfl, ⟨rfl, .inl ⟨rfl, rfl⟩⟩, Only.refl _ _⟩
  | some ad =>
    rw [hco] at h hb
    obtain ⟨E, hE⟩ : ∃ E, E = w.alloc (.cells #[] 61) := ⟨_, rfl⟩
    have HO : Hid (Only (fun _ => False) w E) := Lib.hid (by rw [hE]; exact Only.alloc _ _ _)
    have HR : Hid (RowI w.heap.size (some ⟨w.heap.size, 0, none⟩) 0 [] E) := Lib.hid ⟨by simp, .inr ⟨w.heap.size, 0, #[], rfl, Nat.le_refl _, by rw [hE]; exact heap_alloc_new _ _, Nat.le_refl _, by unfold maxLen; omega, by simp, by simp⟩⟩
    have HS : Hid (SrcOf encI E (some ad) is) := Lib.hid (src_only h HO.out (fun x e he => ⟨hb x e he, fun e => e⟩))
    have HZ : Hid (w.heap.size ≤ E.heap.size) := Lib.hid HO.out.size
    obtain ⟨i0, hi0, hz0, hz1, hz2⟩ := info_parts infoI
    have HL := Lib.hid hl
    clear h hb hl hco hc
    generalize hm : is.length = m at *
    have hnil : (binOp .eql 35 (.slice (some ad) m cc) (.slice none 0 0)).run Try.prog w = .ok (.bool false) w := by first | rfl | simp [binOp]
    have HM := Lib.hid hm
    clear hm
    go_enter Try.func38, Try.ntmps38
    go_upto_region 3 with fail
    go_wp2_with (first
      | (at_builtin; refine wp_append_two liesI rfl (.tmp 5) (.tmp 6) 35 35 rfl w.heap.size 61 61 i0 _ 48 Try.underlying35 Try.underlying35 hi0 hz0 hz1 hz2 rfl (by omega) _ (some ⟨w.heap.size, 0, none⟩) 0 [] rfl (by rw [← hE]; exact HR.out) (some ad) cc is (by rw [HM.out]; rfl) (by rw [← hE]; exact HS.out) (by have := HM.out; have := HL.out; simp; omega) (by rw [← hE]; exact HZ.out) ?_
         intro ao2 cap2 w2 hrow2 ho2 hnew2
         rw [← hE] at ho2
         have HR2 := Lib.hid hrow2
         have HO2 := Lib.hid ho2
         clear hrow2 ho2 hnew2)
      | fail)
    all_goals
      go_ret
      refine ⟨ao2, cap2, by simp [HM.out], HR2.out, Only.trans HO.out HO2.out (fun k hk e => ?_)⟩
      obtain ⟨g, hg, e'⟩ := e
      cases hg
      exact absurd hk (by rw [e']; exact Nat.lt_irrefl _)
section
variable {b pm N : Nat} {sl : List Sl} {ps A C : List Pc} {p p' : Pc} {lim gen low us : Int} {so : Option Addr} {sc np : Nat} {Dp : D3} {w w' W W' : World}
/-- What stands when a slot was put behind all. -/
structure FinG (b pm N : Nat) (sl : List Sl) (ps : List Pc) (lim gen : Int) (so : Option Addr) (np : Nat) (Dp : D3) (nm : Nm) (t : T) (v : Int) (is : List In) (W : World) (so' : Option Addr) (sc' : Nat) (a : Option Addr) (c : Nat) (ga : Option Addr) (gl gg : Nat) (ca : Option Addr) (cc : Nat) (M : Nat) (w' : World) : Prop where
  k : BK b pm N (sl ++ [⟨nm, t.k, t.n, t.s, a, t.l.length, c, ga, gl, gg, v, ca, is.length, cc, gen, 0⟩]) ps lim gen sl.length (sl.length + 1) so' sc' np Dp w'
  o : Only (PutS b so) W w'
  n : NewRow M so so'
  r : Row (fun k => W.heap.size ≤ k ∧ k < M) w' a t.l
  c : RowI W.heap.size ca cc is w' ∧ ∀ g, ca = some g → g.block < M
  m : W.heap.size ≤ M ∧ M ≤ w'.heap.size
theorem put_finG (h : BK b pm N sl ps lim gen sl.length sl.length so sc np Dp W) {x : World} (o : Only (fun _ => False) W x) (nm : Nm) (t : T) (v : Int) (is : List In) (a : Option Addr) (c : Nat) (ga : Option Addr) (gl gg : Nat) (ca : Option Addr) (cc : Nat) (hr : Row (fun k => W.heap.size ≤ k ∧ k < x.heap.size) x a t.l) (hc : RowI W.heap.size ca cc is x) (hg : 0 < gen) (hsl : sl.length + 1 ≤ 10000) :
    Calls Try.prog 36 #[.pointer (some ⟨b, 0, none⟩), .int .i64 sl.length, slV ⟨nm, t.k, t.n, t.s, a, t.l.length, c, ga, gl, gg, v, ca, is.length, cc, gen, 0⟩] x fun e w' => e = .returned (.tuple #[]) ∧ ∃ so' sc', FinG b pm N sl ps lim gen so np Dp nm t v is W so' sc' a c ga gl gg ca cc x.heap.size w' := by
  have hx := h.later o
  refine (put_new hx.box hx.row _ (by omega)).mono ?_
  rintro e w9 ⟨rfl, ⟨so', sc', hb, hrow, hn⟩, ho⟩
  have hlo : ∀ k, PutS b so k → k < W.heap.size := fun k hk => by
    rcases hk with rfl | ⟨g, hg', rfl⟩
    · exact lt_of_block h.box
    · exact (h.row.head g hg').2.2
  have hwx := o.size
  refine ⟨rfl, so', sc', hx.slotted ho hb hrow hg hsl, (o.mono (fun _ _ e => e.elim)).same ho, hn, hr.only ho (fun k hk => hk.2) (fun k hk hk' => by have := hlo k hk'; omega), ⟨hc.only ho (fun g hg' hk' => by have h1 := hlo _ hk'; have h2 := (hc.head g hg').2.1; omega), fun g hg' => (hc.head g hg').2.2⟩, hwx, ho.size⟩
/-- What stands when a clause was added. -/
structure AddedG (b pm N : Nat) (sl : List Sl) (ps : List Pc) (lim gen : Int) (so : Option Addr) (nm : Nm) (t : T) (v : Int) (is : List In) (f : Bool) (w w' : World) (A C : List Pc) (p : Pc) (own' : Nat → Prop) (np' : Nat) (Dp' : D3) (so' : Option Addr) (sc' : Nat) (a : Option Addr) (c : Nat) (ga : Option Addr) (gl gg : Nat) (ca : Option Addr) (cc' : Nat) : Prop where
  nme : p.nm = nm
  isp : IsP ps A C p nm
  bi : BI b pm (N + 1 + 1) (sl ++ [⟨nm, t.k, t.n, t.s, a, t.l.length, c, ga, gl, gg, v, ca, is.length, cc', gen + 1, 0⟩]) (A ++ { p with own := own', st := (addS p.st sl.length (firstK t) f).2, lv := p.lv + 1 } :: C) lim (gen + 1) sl.length so' sc' np' Dp' w'
  r : ∃ B M, w.heap.size ≤ B ∧ M ≤ w'.heap.size ∧ Row (fun k => B ≤ k ∧ k < M) w' a t.l ∧ (RowI B ca cc' is w' ∧ ∀ g, ca = some g → g.block < M) ∧ ∀ k, BaseS b pm so' (A ++ { p with own := own', st := (addS p.st sl.length (firstK t) f).2, lv := p.lv + 1 } :: C) k → k < B ∨ M ≤ k
  o : Only (BaseS b pm so ps) w w'
  nw : ∀ k, BaseS b pm so' (A ++ { p with own := own', st := (addS p.st sl.length (firstK t) f).2, lv := p.lv + 1 } :: C) k → BaseS b pm so ps k ∨ w.heap.size ≤ k
set_option maxHeartbeats 8000000 in
theorem add_all (h : BI b pm N sl ps lim gen low so sc np Dp w) (t : T) (ao : Option Addr) (cap : Nat) (v : Int) (ht : t.Sane) (P : Nat → Prop) (hl : Row P w ao t.l) (hP : ∀ k, P k → k < w.heap.size ∧ k ≠ b ∧ k ≠ pm ∧ ¬ RowAt so k) (hz : t.size ≤ 900000)
    (go : Option Addr) (gs : List GI) (gc : Nat) (hg : ∀ W, Only (fun k => k = b ∨ k = pm) w W → ArgG go gs W) (hgl : gs.length ≤ 100000)
    (co : Option Addr) (cc : Nat) (is : List In) (hc : co = none → cc = 0) (hs : SrcOf encI w co is) (hb : ∀ ad, co = some ad → is ≠ [] → ad.block < w.heap.size ∧ ad.block ≠ b ∧ ad.block ≠ pm) (hil : is.length ≤ 100000)
    (nm : Nm) (hi : indF t.k t.s t.l.length = some nm) (hnm : nm.Ok) (hlim : sl.length < lim) (hfull : ∀ p ∈ ps, p.nm = nm → p.st.L.length < 4096) (f : Bool) (hko : (firstK t).Ok) (hN : N + 2 ≤ 100000) (hsl : sl.length + 1 ≤ 10000) :
    Calls Try.prog 9 #[.pointer (some ⟨b, 0, none⟩), .agg #[.int .i64 t.k, .int .i64 t.n, .string t.s, .slice ao t.l.length cap, .slice go gs.length gc, .int .i64 v], .slice co is.length cc, .bool f] w fun e w' => e = .returned (.tuple #[.int .i64 sl.length, .int .i64 0]) ∧ ∃ A C p own' np' Dp' so' sc' a c ga gg ca cc', AddedG b pm N sl ps lim gen so nm t v is f w w' A C p own' np' Dp' so' sc' a c ga gs.length gg ca cc' := by
  obtain ⟨E, hE⟩ : ∃ E, E = w.alloc (.cells #[.int .i64 t.k, .int .i64 t.n, .string t.s, .slice ao t.l.length cap, .slice go gs.length gc, .int .i64 v] 34) := ⟨_, rfl⟩
  have HX : Hid (Hex w.heap.size (.int .i64 t.k) (.int .i64 t.n) (.string t.s) (.slice ao t.l.length cap) (.slice go gs.length gc) (.int .i64 v) E) := Lib.hid (by rw [hE]; exact heap_alloc_new _ _)
  have HO : Hid (Only (fun _ => False) w E) := Lib.hid (by rw [hE]; exact Only.alloc _ _ _)
  have HB := Lib.hid (h.later HO.out)
  have HC := Lib.hid (closed_no HB.out)
  obtain ⟨x0, x1, x2, x3, x4, x5⟩ := HX.out.cells
  have HIN := Lib.hid (indicator_any t.k t.n t.s ao t.l.length cap E)
  rw [hi] at HIN
  simp only [Option.getD_some, Option.isSome_some] at HIN
  have HBO := Lib.hid (lt_of_block h.box)
  have HPO : Hid (pm < w.heap.size) := Lib.hid (by obtain ⟨es, cl, hbk', _⟩ := h.pmap; exact lt_of_block hbk')
  clear h
  generalize hbk : w.heap.size = bk at *
  go_enter Try.func9, Try.ntmps9
  go_upto_region 1 with fail
  rw [← hE]
  clear hE
  go_wp2_with fail
  refine HC.out.mono ?_
  rintro e w1 ⟨rfl, rfl⟩
  go_wp2_with fail
  refine HIN.out.mono ?_
  rintro e w2 ⟨rfl, ho2⟩
  obtain ⟨W3, hW3⟩ : ∃ W3, W3 = w2.alloc (.cells #[.string nm.s, .int .i64 nm.a] 82) := ⟨_, rfl⟩
  have HO3 : Hid (Only (fun _ => False) w1 W3) := Lib.hid (by rw [hW3]; exact ho2.same (Only.alloc _ _ _))
  have HN3 : Hid (NmAt w2.heap.size nm W3) := Lib.hid (by unfold NmAt; rw [hW3]; exact heap_alloc_new _ _)
  have HB3 := Lib.hid (HB.out.later HO3.out)
  have HLW := Lib.hid (lowest_any HB3.out)
  clear x0 x1 x2 x3 x4 x5 ho2 HIN HC
  go_upto_region 4 with fail
  rw [← hW3]
  clear hW3
  generalize w2.heap.size = bn at *
  go_wp2_with fail
  refine HLW.out.mono ?_
  rintro e W4 ⟨rfl, hb4, ho4⟩
  have HB4 := Lib.hid hb4
  have HN4 : Hid (NmAt bn nm W4) := Lib.hid (HN3.out.only ho4 (fun e => kind_ne HN3.out HB3.out.box (by decide) e))
  have HO4 : Hid (Only (· = b) w1 W4) := Lib.hid ((HO3.out.mono (fun _ _ e => e.elim)).same ho4)
  have hlk : ∀ q, (Instr.lookup 77 (.map (some pm)) (nmV nm) false).run Try.prog (W4.drewN q) = .ok (pbV (nsF nm (ps.map (fun p => (p.nm, p.pb))))) (W4.drewN q) := fun q =>
    have hq := hb4.later (Only.drewN _ _ q)
    look_ns hq.pmap hq.nmap hq.nok hnm
  obtain ⟨c0, c1, c2, c3, c4, c5⟩ := hb4.cells
  obtain ⟨n0, n1⟩ := HN4.out.cells
  clear hb4 ho4 HLW HB3 HN3
  generalize hr : nsF nm (ps.map (fun p => (p.nm, p.pb))) = r at *
  go_wp2_with fail
  go_cut [13] (fun s13 wx => s13 = pbV r ∧ Hid (Only (fun _ => False) W4 wx))
  case first =>
    go_quiet (fail)
    all_goals
      go_wp2_with fail
      go_meet
      exact ⟨rfl, Lib.hid (Only.drewN _ _ _)⟩
  case rest =>
    obtain ⟨rfl, HO5⟩ := hcut
    have HB5 := Lib.hid (HB4.out.later HO5.out)
    have HN5 := Lib.hid (HN4.out.only HO5.out (fun e => e))
    have HO6 : Hid (Only (· = b) w1 wc) := Lib.hid (HO4.out.same (HO5.out.mono (fun _ _ e => e.elim)))
    have HNOK := Lib.hid HB5.out.nok
    clear c0 c1 c2 c3 c4 c5 n0 n1 hlk HB4 HN4 HO4 HO5
    obtain ⟨c0, c1, c2, c3, c4, c5⟩ := HB5.out.cells
    have hl1 : ¬ ((sl.length : Int) ≥ lim) := by omega
    obtain ⟨W5, hW5⟩ : ∃ W5, W5 = wc := ⟨_, rfl⟩
    subst hW5
    go_upto_region 8 with fail
    go_cut [13, 49] (fun s13 s49 wx => s13 = pbV r ∧ s49 = .bool false ∧ W5 = wx)
    case first =>
      cases r with
      | none =>
        simp only [pbV, Option.map_none]
        go_wp2_with fail
        go_meet
        exact ⟨rfl, rfl, rfl⟩
      | some pb =>
        have hm := nsF_some hr
        obtain ⟨p, hp, he⟩ := List.mem_map.1 hm
        injection he with he1 he2
        have hq : ¬ ((p.st.L.length : Int) ≥ 4096) := by have := hfull p hp he1; omega
        have HLN := Lib.hid (len_tab (HB5.out.pds p hp).tab.tab)
        have k0 : W5.cell? ⟨pb, 0, none⟩ = some (.pointer (some ⟨p.tb, 0, none⟩)) := by rw [← he2, cell_of_blk (HB5.out.pds p hp).box]; rfl
        simp only [pbV, Option.map_some]
        clear hr hm he1 he2
        go_wp2_with fail
        refine HLN.out.mono ?_
        rintro e w6 ⟨rfl, rfl⟩
        go_wp2_with fail
        go_meet
        exact ⟨rfl, by rw [decide_eq_false (by omega)], rfl⟩
    case rest =>
      obtain ⟨rfl, rfl, rfl⟩ := hcut
      go_upto_region 10 with fail
      go_cut [13, 51] (fun s13 s51 wx => s13 = pbV r ∧ s51 = .bool r.isNone ∧ W5 = wx)
      case first =>
        cases r with
        | none =>
          simp only [pbV, Option.map_none]
          go_wp2_with fail
          go_meet
          exact ⟨rfl, rfl, rfl⟩
        | some pb =>
          simp only [pbV, Option.map_some]
          go_wp2_with fail
          go_meet
          exact ⟨rfl, rfl, rfl⟩
      case rest =>
        obtain ⟨rfl, rfl, rfl⟩ := hcut
        go_upto_if 51 with fail
        go_cut [13] (fun s13 wx => ∃ A C p np' Dp', s13 = .pointer (some ⟨p.pb, 0, none⟩) ∧ Hid (Met bk b pm (N + 1) sl ps nm lim gen so sc A C p np' Dp' wx ∧ Only (fun k => k = b ∨ k = pm) w1 wx ∧ NmAt bn nm wx))
        case first =>
          cases r with
          | none =>
            have hnn := nsF_none hr
            have HNW := Lib.hid (new_O W5)
            simp only [Option.isNone_none]
            clear c0 c1 c2 c3 c4 c5
            go_wp2_with fail
            refine HNW.out.mono ?_
            rintro e w6 ⟨rfl, ⟨own, ht6, hk6⟩, ho6⟩
            obtain ⟨W7, hW7⟩ : ∃ W7, W7 = w6.alloc (.cells #[.pointer (some ⟨W5.heap.size + 2, 0, none⟩), .int .i64 0] 88) := ⟨_, rfl⟩
            have o7 : Only (fun _ => False) w6 W7 := by rw [hW7]; exact Only.alloc _ _ _
            have HO7 := Lib.hid (ho6.same o7)
            have HP7 : Hid (PcI N ⟨nm, w6.heap.size, W5.heap.size + 2, own, ⟨[], -1, 0⟩, 0⟩ W7) := Lib.hid ⟨by rw [hW7]; exact heap_alloc_new _ _, by have := tab_le (ht6.only o7 (fun _ _ e => e)) N (by omega); rwa [Nat.zero_add] at this⟩
            have HK7 := Lib.hid (HB5.out.k.later HO7.out)
            have HN7 := Lib.hid (HN5.out.only HO7.out (fun e => e))
            have HLT : Hid (W5.heap.size ≤ w6.heap.size) := Lib.hid ho6.size
            have HOW := Lib.hid hk6
            clear ht6 ho6 o7 hk6
            go_upto_region 12 with fail
            rw [← hW7]
            clear hW7
            generalize w6.heap.size = pb at *
            obtain ⟨c0, c1, c2, c3, c4, c5⟩ := HK7.out.box.cells
            obtain ⟨n0, n1⟩ := HN7.out.cells
            go_still_tail 6, (by kernel_rfl)
            change wpList _ _ _ _ _ W7.drew
            have oD : Only (fun _ => False) W7 W7.drew := Only.drew _ _
            have HK8 := Lib.hid (HK7.out.later oD)
            have HN8 := Lib.hid (HN7.out.only oD (fun e => e))
            have HP8 := Lib.hid (HP7.out.only oD (fun e => e) (fun _ _ e => e))
            have HO8 := Lib.hid (HO7.out.same oD)
            clear c0 c1 c2 c3 c4 c5 n0 n1 oD
            generalize W7.drew = W8 at *
            have hown8 := HK8.out.pmap
            have hni : np < maxLen := by have := HK8.out.nums; unfold maxLen; omega
            have hkn := keyOfM hnm
            go_wp2_with (first
              | (at_mapUpdate; refine wpList_mapUpdate_in _ rfl _ _ _ 77 rfl 82 85 keyedN Try.underlying77 pbR pm np Dp rfl hown8 hni _ _ _ rfl rfl hkn _ [] (pbR_mk pb) ?_; intro w9 hown9 hturn9)
              | fail)
            go_meet
            have o9 := idx.Only.turned hturn9
            refine ⟨[], ps, ⟨nm, pb, W5.heap.size + 2, own, ⟨[], -1, 0⟩, 0⟩, np + 1, _, rfl, Lib.hid ⟨⟨HK8.out.known HP8.out hnm (fun q hq => hnn _ (List.mem_map.2 ⟨q, hq, rfl⟩)) (fun q hq => ⟨?_, fun k hk hqk => ?_⟩) (fun hk => ?_) rfl o9 hown9 (by omega), rfl, .inr ⟨rfl, rfl, rfl, rfl, fun q hq => hnn _ (List.mem_map.2 ⟨q, hq, rfl⟩)⟩, fun k hk => .inr ?_⟩, ?_, ?_⟩⟩
            · have h1 := lt_of_block (HB5.out.pds q hq).box
              have := HLT.out
              show q.pb ≠ pb
              omega
            · have h1 := ((HB5.out.pds q hq).tab.kind k hqk).lt
              have := HOW.out k hk
              omega
            · obtain ⟨es, cl, hbk', _⟩ := HB5.out.pmap
              have h1 := lt_of_block hbk'
              have := HOW.out pm hk
              omega
            · have h1 := HO.out.size
              have h2 := HO6.out.size
              have h3 := HLT.out
              rcases hk with hk | hk
              · have := HOW.out k hk
                omega
              · have hk' : k = pb := hk
                omega
            · exact (HO6.out.mono (fun k _ e => .inl e)).same ((HO8.out.mono (fun _ _ e => e.elim)).same (o9.mono (fun k _ e => .inr e)))
            · exact HN8.out.only o9 (fun e => ownsMap_not hown8 (by rw [← show bn = pm from e]; exact HN8.out))
          | some pb =>
            have hm := nsF_some hr
            obtain ⟨p, hp, he⟩ := List.mem_map.1 hm
            injection he with he1 he2
            obtain ⟨A, C, hAC⟩ := List.append_of_mem hp
            simp only [Option.isNone_some, pbV, Option.map_some]
            have HK := Lib.hid (HB5.out.k.more (by omega))
            rw [hAC] at HK
            go_wp2_with fail
            go_meet
            exact ⟨A, C, p, np, Dp, by rw [he2], Lib.hid ⟨⟨HK.out, he1, .inl hAC, fun k hk => .inl ⟨p, hp, hk.symm⟩⟩, HO6.out.mono (fun k _ e => .inl e), HN5.out⟩⟩
        case rest =>
          obtain ⟨A, C, p, np', Dp', rfl, hM⟩ := hcut
          obtain ⟨W6, hW6⟩ : ∃ W6, W6 = wc := ⟨_, rfl⟩
          subst hW6
          have HX6 : Hid (Hex bk (.int .i64 t.k) (.int .i64 t.n) (.string t.s) (.slice ao t.l.length cap) (.slice go gs.length gc) (.int .i64 v) W6) := Lib.hid (HX.out.only hM.out.2.1 (fun e => e.elim (fun e => by have := HBO.out; omega) (fun e => by have := HPO.out; omega)))
          clear c0 c1 c2 c3 c4 c5
          obtain ⟨c0, c1, c2, c3, c4, c5⟩ := hM.out.1.k.box.cells
          have f3 := hM.out.1.k.box.free 3
          have hg : IntKind.i64.wrap (gen + 1) = gen + 1 := by have := HB5.out.nums; rw [IntWalk.i64_in _ (by omega)]
          obtain ⟨W7, hW7⟩ : ∃ W7, W7 = W6.setCell ⟨b, 3, none⟩ (.int .i64 (gen + 1)) := ⟨_, rfl⟩
          have HG7 : Hid (BK b pm (N + 1) sl (A ++ p :: C) lim (gen + 1) sl.length sl.length so sc np' Dp' W7 ∧ Only (· = b) W6 W7) := Lib.hid (by
            have h1 := hM.out.1.k.box.setGen (gen + 1)
            rw [← hW7] at h1
            exact ⟨hM.out.1.k.reboxed h1.2 h1.1 (by have := HB5.out.nums; omega), h1.2⟩)
          have HX7 : Hid (Hex bk (.int .i64 t.k) (.int .i64 t.n) (.string t.s) (.slice ao t.l.length cap) (.slice go gs.length gc) (.int .i64 v) W7) := Lib.hid (HX6.out.only HG7.out.2 (fun e => by have := HBO.out; have e' : bk = b := e; omega))
          have HN7 : Hid (NmAt bn nm W7) := Lib.hid (hM.out.2.2.only HG7.out.2 (fun e => kind_ne hM.out.2.2 hM.out.1.k.box (by decide) e))
          have HO7 : Hid (Only (fun k => k = b ∨ k = pm) w1 W7) := Lib.hid (hM.out.2.1.same (HG7.out.2.mono (fun k _ e => .inl e)))
          have HMI : Hid (p.nm = nm ∧ (ps = A ++ p :: C ∨ (A = [] ∧ C = ps ∧ p.st = ⟨[], -1, 0⟩ ∧ p.lv = 0 ∧ ∀ q ∈ ps, q.nm ≠ nm)) ∧ ∀ k, (p.own k ∨ k = p.pb) → (∃ q ∈ ps, k = q.pb ∨ q.own k) ∨ bk ≤ k) := Lib.hid ⟨hM.out.1.nme, hM.out.1.is, hM.out.1.fr⟩
          clear HX6
          go_upto_region 14 with fail
          rw [← hW7]
          clear hW7 c0 c1 c2 c3 c4 c5 f3 hg hM
          have HNB : Hid (W7.heap.size ≥ w.heap.size ∧ bk < W7.heap.size) := Lib.hid (by
            have h1 := HO.out.size
            have h2 := HO7.out.size
            have h3 := lt_of_block HX7.out
            exact ⟨by omega, h3⟩)
          have HNP : Hid (∀ k, P k → k < W7.heap.size) := Lib.hid (fun k hk => by have := (hP k hk).1; have := HNB.out; omega)
          have HRW : Hid (Row P W7 ao t.l) := Lib.hid ((hl.only HO.out (fun k hk => by have := (hP k hk).1; omega) (fun _ _ e => e)).only HO7.out (fun k hk => by have := (hP k hk).1; have := HO.out.size; omega) (fun k hk e => e.elim (hP k hk).2.1 (hP k hk).2.2.1))
          have HSC : Hid (SrcOf encI W7 co is) := Lib.hid (src_only (src_only hs HO.out (fun ad e he => ⟨by have := (hb ad e he).1; omega, fun e => e⟩)) HO7.out (fun ad e he => ⟨by have := (hb ad e he).1; have := HO.out.size; omega, fun e' => e'.elim (hb ad e he).2.1 (hb ad e he).2.2⟩))
          have HCP : Hid (∀ W, Only (fun _ => False) W7 W → Calls Try.prog 37 #[.agg #[.int .i64 t.k, .int .i64 t.n, .string t.s, .slice ao t.l.length cap, .slice go gs.length gc, .int .i64 v]] W fun e w' => ∃ a c ga gg, e = .returned (.agg #[.int .i64 t.k, .int .i64 t.n, .string t.s, .slice a t.l.length c, .slice ga gs.length gg, .int .i64 v]) ∧ Row (fun k => W.heap.size ≤ k ∧ k < w'.heap.size) w' a t.l ∧ Only (fun _ => False) W w') := Lib.hid (fun W o => copied_any t ao cap v go gs gc W ht ((HRW.out.only o (fun k hk => HNP.out k hk) (fun _ _ e => e)).mono (fun k hk => Nat.lt_of_lt_of_le (HNP.out k hk) o.size)) hz (hg W (((HO.out.mono (fun _ _ e => e.elim)).same HO7.out).same (o.mono (fun _ _ e => e.elim)))) hgl)
          have HCL : Hid (∀ W, Only (fun _ => False) W7 W → Calls Try.prog 38 #[.slice co is.length cc] W fun e w' => ∃ a c, e = .returned (.slice a is.length c) ∧ RowI W.heap.size a c is w' ∧ Only (fun _ => False) W w') := Lib.hid (fun W o => clone_all co cc is W hc (src_only HSC.out o (fun ad e he => ⟨by have := (hb ad e he).1; have := HNB.out; omega, fun e => e⟩)) (fun ad e he => by have := (hb ad e he).1; have := HNB.out; have := o.size; omega) hil)
          have HPU : Hid (∀ x, Only (fun _ => False) W7 x → ∀ a c ga gg ca cc', Row (fun k => W7.heap.size ≤ k ∧ k < x.heap.size) x a t.l → RowI W7.heap.size ca cc' is x → Calls Try.prog 36 #[.pointer (some ⟨b, 0, none⟩), .int .i64 sl.length, slV ⟨nm, t.k, t.n, t.s, a, t.l.length, c, ga, gs.length, gg, v, ca, is.length, cc', gen + 1, 0⟩] x fun e w' => e = .returned (.tuple #[]) ∧ ∃ so' sc', FinG b pm (N + 1) sl (A ++ p :: C) lim (gen + 1) so np' Dp' nm t v is W7 so' sc' a c ga gs.length gg ca cc' x.heap.size w') := Lib.hid (fun x o a c ga gg ca cc' h1 h2 => put_finG HG7.out.1 o nm t v is a c ga gs.length gg ca cc' h1 h2 (by have := HB5.out.nums; omega) hsl)
          have HSS : Hid (∀ W, Only (PutS b so) W7 W → (W.cell? ⟨bk, 0, none⟩ = some (.int .i64 t.k) ∧ W.cell? ⟨bk, 1, none⟩ = some (.int .i64 t.n) ∧ W.cell? ⟨bk, 2, none⟩ = some (.string t.s) ∧ W.cell? ⟨bk, 3, none⟩ = some (.slice ao t.l.length cap) ∧ W.cell? ⟨bk, 4, none⟩ = some (.slice go gs.length gc) ∧ W.cell? ⟨bk, 5, none⟩ = some (.int .i64 v)) ∧ (W.cell? ⟨bn, 0, none⟩ = some (.string nm.s) ∧ W.cell? ⟨bn, 1, none⟩ = some (.int .i64 nm.a))) := Lib.hid (fun W o => ⟨(HX7.out.only o (fun e => e.elim (fun e => by have := HBO.out; omega) (fun e => row_apart HG7.out.1.row HX7.out (by decide) e))).cells, (HN7.out.only o (fun e => e.elim (fun e => kind_ne HN7.out HG7.out.1.box (by decide) e) (fun e => row_apart HG7.out.1.row HN7.out (by decide) e))).cells⟩)
          have HS3 : Hid (∀ W, Only (fun _ => False) W7 W → (W.cell? ⟨bk, 0, none⟩ = some (.int .i64 t.k) ∧ W.cell? ⟨bk, 1, none⟩ = some (.int .i64 t.n) ∧ W.cell? ⟨bk, 2, none⟩ = some (.string t.s) ∧ W.cell? ⟨bk, 3, none⟩ = some (.slice ao t.l.length cap) ∧ W.cell? ⟨bk, 4, none⟩ = some (.slice go gs.length gc) ∧ W.cell? ⟨bk, 5, none⟩ = some (.int .i64 v)) ∧ (W.cell? ⟨bn, 0, none⟩ = some (.string nm.s) ∧ W.cell? ⟨bn, 1, none⟩ = some (.int .i64 nm.a)) ∧ W.cell? ⟨b, 3, none⟩ = some (.int .i64 (gen + 1))) := Lib.hid (fun W o => ⟨(HSS.out W (o.mono (fun _ _ e => e.elim))).1, (HSS.out W (o.mono (fun _ _ e => e.elim))).2, (HG7.out.1.later o).box.cells.2.2.2.1⟩)
          have HSG : Hid (∀ W, Only (fun _ => False) W7 W → W.cell? ⟨b, 3, none⟩ = some (.int .i64 (gen + 1))) := Lib.hid (fun W o => (HG7.out.1.later o).box.cells.2.2.2.1)
          go_cut [13] (fun s13 wx => s13 = .pointer (some ⟨p.pb, 0, none⟩) ∧ ∃ so' sc' a c ga gg ca cc' M, Hid (FinG b pm (N + 1) sl (A ++ p :: C) lim (gen + 1) so np' Dp' nm t v is W7 so' sc' a c ga gs.length gg ca cc' M wx))
          case first =>
            go_region_held3 (fun W => (W.cell? ⟨bk, 0, none⟩ = some (.int .i64 t.k) ∧ W.cell? ⟨bk, 1, none⟩ = some (.int .i64 t.n) ∧ W.cell? ⟨bk, 2, none⟩ = some (.string t.s) ∧ W.cell? ⟨bk, 3, none⟩ = some (.slice ao t.l.length cap) ∧ W.cell? ⟨bk, 4, none⟩ = some (.slice go gs.length gc) ∧ W.cell? ⟨bk, 5, none⟩ = some (.int .i64 v)) ∧ (W.cell? ⟨bn, 0, none⟩ = some (.string nm.s) ∧ W.cell? ⟨bn, 1, none⟩ = some (.int .i64 nm.a)) ∧ W.cell? ⟨b, 3, none⟩ = some (.int .i64 (gen + 1))) (with_reducible first | exact HS9.out | exact HS3.out _ HOv.out | exact HS3.out _ HOu.out | exact HS3.out _ (Only.drew _ _)) (first
              | (go_at_call 37; first
                | ((with_reducible refine (HCP.out _ (Only.drew _ _)).mono ?_); rintro r u ⟨a, c, ga, gg, rfl, hra, hou⟩; have HOu : Hid (Only (fun _ => False) W7 u) := Lib.hid ((Only.drew _ _).same hou); have HRa : Hid (Row (fun k => W7.heap.size ≤ k ∧ k < u.heap.size) u a t.l) := Lib.hid hra; clear hou hra)
                | ((with_reducible refine (HCP.out _ HOv.out).mono ?_); rintro r u ⟨a, c, ga, gg, rfl, hra, hou⟩; have HOu : Hid (Only (fun _ => False) W7 u) := Lib.hid (HOv.out.same hou); have HRa : Hid (Row (fun k => W7.heap.size ≤ k ∧ k < u.heap.size) u a t.l) := Lib.hid (hra.mono (fun k hk => ⟨Nat.le_trans HOv.out.size hk.1, hk.2⟩)); have HRc : Hid (RowI W7.heap.size ca cc' is u) := Lib.hid (HRc.out.only hou (fun _ _ e => e)); clear hou hra))
              | (go_at_call 38; first
                | ((with_reducible refine (HCL.out _ (Only.drew _ _)).mono ?_); rintro r x ⟨ca, cc', rfl, hrc, hov⟩; have HOv : Hid (Only (fun _ => False) W7 x) := Lib.hid ((Only.drew _ _).same hov); have HRc : Hid (RowI W7.heap.size ca cc' is x) := Lib.hid hrc; clear hov hrc)
                | ((with_reducible refine (HCL.out _ HOu.out).mono ?_); rintro r x ⟨ca, cc', rfl, hrc, hov⟩; have HOv : Hid (Only (fun _ => False) W7 x) := Lib.hid (HOu.out.same hov); have HRc : Hid (RowI W7.heap.size ca cc' is x) := Lib.hid (rowI_base hrc HOu.out.size); have HRa : Hid (Row (fun k => W7.heap.size ≤ k ∧ k < x.heap.size) x a t.l) := Lib.hid ((HRa.out.only hov (fun k hk => hk.2) (fun _ _ e => e)).mono (fun k hk => ⟨hk.1, Nat.lt_of_lt_of_le hk.2 hov.size⟩)); clear hov hrc))
              | (go_at_call 36; first
                | ((with_reducible refine (HPU.out _ HOv.out a c ga gg ca cc' HRa.out HRc.out).mono ?_); rintro r w9 ⟨rfl, so', sc', hF⟩; have HF := Lib.hid hF; have HS9 := Lib.hid (And.intro (HSS.out w9 HF.out.o).1 (And.intro (HSS.out w9 HF.out.o).2 HF.out.k.box.cells.2.2.2.1)); clear hF)
                | ((with_reducible refine (HPU.out _ HOu.out a c ga gg ca cc' HRa.out HRc.out).mono ?_); rintro r w9 ⟨rfl, so', sc', hF⟩; have HF := Lib.hid hF; have HS9 := Lib.hid (And.intro (HSS.out w9 HF.out.o).1 (And.intro (HSS.out w9 HF.out.o).2 HF.out.k.box.cells.2.2.2.1)); clear hF)))
            all_goals
              go_wp2_with fail
              go_meet
              exact ⟨rfl, so', sc', a, c, ga, gg, ca, cc', _, HF⟩
          case rest =>
            obtain ⟨rfl, so', sc', a, c, ga, gg, ca, cc', M, HF⟩ := hcut
            obtain ⟨W9, hW9⟩ : ∃ W9, W9 = wc := ⟨_, rfl⟩
            subst hW9
            have HX9 : Hid (Hex bk (.int .i64 t.k) (.int .i64 t.n) (.string t.s) (.slice ao t.l.length cap) (.slice go gs.length gc) (.int .i64 v) W9) := Lib.hid (HX7.out.only HF.out.o (fun e => e.elim (fun e => by have := HBO.out; omega) (fun e => row_apart HG7.out.1.row HX7.out (by decide) e)))
            have HR9 : Hid (Row P W9 ao t.l) := Lib.hid (HRW.out.only HF.out.o (fun k hk => HNP.out k hk) (fun k hk e => e.elim (hP k hk).2.1 (hP k hk).2.2.2))
            have HZ9 : Hid (W7.heap.size ≤ W9.heap.size) := Lib.hid HF.out.o.size
            have HPM : Hid (p ∈ A ++ p :: C) := Lib.hid (by simp)
            have HOU := Lib.hid (IsP.outs (sl := sl) (nm := nm) HMI.out.2.1 HB5.out.outs)
            have HIX := Lib.hid (IsP.ins (sl := sl) (nm := nm) HMI.out.2.1 HB5.out.ins)
            have HID := Lib.hid (outs_none HOU.out HPM.out)
            have HLN : Hid (p.st.L.length < 4096) := Lib.hid (by
              rcases HMI.out.2.1 with e | ⟨_, _, e, _, _⟩
              · exact hfull p (by rw [e]; simp) HMI.out.1
              · rw [e]; simp)
            have HKD : Hid (∀ k, p.own k → k < W7.heap.size ∧ k ≠ bk ∧ k ≠ p.pb) := Lib.hid (fun k hk => by
              have h1 := (HG7.out.1.pds p HPM.out).tab.kind k hk
              exact ⟨h1.lt, h1.ne HX7.out (by decide) (by decide), h1.ne (HG7.out.1.pds p HPM.out).box (by decide) (by decide)⟩)
            have HPB : Hid (p.pb < W7.heap.size) := Lib.hid (lt_of_block (HG7.out.1.pds p HPM.out).box)
            have HFI : Hid (∀ W, Only (fun _ => False) W9 W → Calls Try.prog 40 #[.agg #[.int .i64 t.k, .int .i64 t.n, .string t.s, .slice ao t.l.length cap]] W fun e w' => e = .returned (kyV (firstK t)) ∧ Only (fun _ => False) W w') := Lib.hid (fun W o => firstOf_any t ao cap W ((HR9.out.only o (fun k hk => Nat.lt_of_lt_of_le (HNP.out k hk) HZ9.out) (fun _ _ e => e)).mono (fun k hk => Nat.lt_of_lt_of_le (Nat.lt_of_lt_of_le (HNP.out k hk) HZ9.out) o.size)))
            have HAD : Hid (∀ W, Only (fun _ => False) W9 W → Calls Try.prog 39 #[.pointer (some ⟨p.tb, 0, none⟩), .int .i64 sl.length, kyV (firstK t), .bool f] W fun e w' => e = .returned (.int .i64 0) ∧ (∃ own', BK b pm (N + 1 + 1) (sl ++ [⟨nm, t.k, t.n, t.s, a, t.l.length, c, ga, gs.length, gg, v, ca, is.length, cc', gen + 1, 0⟩]) (A ++ { p with own := own', st := (addS p.st sl.length (firstK t) f).2 } :: C) lim (gen + 1) sl.length (sl.length + 1) so' sc' np' Dp' w' ∧ ∀ k, own' k → p.own k ∨ W9.heap.size ≤ k) ∧ Only p.own W9 w') := Lib.hid (fun W o => by
              have hk := HF.out.k.later o
              refine (add_O (hk.pds p HPM.out).tab (by omega) (sl.length : Int) (by unfold idx.Fit; exact WalkArith.wf_i64 (by omega)) (firstK t) hko f HID.out HLN.out).mono ?_
              rintro e w' ⟨h1, ⟨own', h2, h3⟩, h4⟩
              exact ⟨h1, ⟨own', hk.tabbed h4 h2 h3 (by omega), fun k hk => (h3 k hk).imp id (fun e => Nat.le_trans o.size e)⟩, (o.mono (fun _ _ e => e.elim)).same h4⟩)
            have HSX : Hid (∀ W, Only p.own W9 W → (W.cell? ⟨bk, 0, none⟩ = some (.int .i64 t.k) ∧ W.cell? ⟨bk, 1, none⟩ = some (.int .i64 t.n) ∧ W.cell? ⟨bk, 2, none⟩ = some (.string t.s) ∧ W.cell? ⟨bk, 3, none⟩ = some (.slice ao t.l.length cap) ∧ W.cell? ⟨bk, 4, none⟩ = some (.slice go gs.length gc) ∧ W.cell? ⟨bk, 5, none⟩ = some (.int .i64 v)) ∧ W.cell? ⟨p.pb, 0, none⟩ = some (.pointer (some ⟨p.tb, 0, none⟩))) := Lib.hid (fun W o => ⟨(HX9.out.only o (fun e => (HKD.out _ e).2.1 rfl)).cells, by
              have h1 : W.heap[p.pb]? = W9.heap[p.pb]? := o.block p.pb (Nat.lt_of_lt_of_le HPB.out HZ9.out) (fun e => (HKD.out _ e).2.2 rfl)
              rw [(HF.out.k.pds p HPM.out).box] at h1
              rw [cell_of_blk h1]; rfl⟩)
            have HSY : Hid (∀ W, Only (fun _ => False) W9 W → (W.cell? ⟨bk, 0, none⟩ = some (.int .i64 t.k) ∧ W.cell? ⟨bk, 1, none⟩ = some (.int .i64 t.n) ∧ W.cell? ⟨bk, 2, none⟩ = some (.string t.s) ∧ W.cell? ⟨bk, 3, none⟩ = some (.slice ao t.l.length cap) ∧ W.cell? ⟨bk, 4, none⟩ = some (.slice go gs.length gc) ∧ W.cell? ⟨bk, 5, none⟩ = some (.int .i64 v)) ∧ W.cell? ⟨p.pb, 0, none⟩ = some (.pointer (some ⟨p.tb, 0, none⟩))) := Lib.hid (fun W o => HSX.out W (o.mono (fun _ _ e => e.elim)))
            clear HCP HCL HPU HSS HS3 HSG HRW HSC hs
            go_upto_region 15 with fail
            go_cut [13] (fun s13 wx => s13 = .pointer (some ⟨p.pb, 0, none⟩) ∧ ∃ own', Hid (BK b pm (N + 1 + 1) (sl ++ [⟨nm, t.k, t.n, t.s, a, t.l.length, c, ga, gs.length, gg, v, ca, is.length, cc', gen + 1, 0⟩]) (A ++ { p with own := own', st := (addS p.st sl.length (firstK t) f).2 } :: C) lim (gen + 1) sl.length (sl.length + 1) so' sc' np' Dp' wx ∧ Only p.own W9 wx ∧ ∀ k, own' k → p.own k ∨ W9.heap.size ≤ k))
            case first =>
              clear HX HO HB HB5 HN5 HO6 HNOK HX7 HN7 HO7 HMI HNB HNP HX9 HR9 HZ9 HPM HOU HIX HID HLN HKD HPB HF HG7 HBO HPO
              go_region_held3 (fun W => (W.cell? ⟨bk, 0, none⟩ = some (.int .i64 t.k) ∧ W.cell? ⟨bk, 1, none⟩ = some (.int .i64 t.n) ∧ W.cell? ⟨bk, 2, none⟩ = some (.string t.s) ∧ W.cell? ⟨bk, 3, none⟩ = some (.slice ao t.l.length cap) ∧ W.cell? ⟨bk, 4, none⟩ = some (.slice go gs.length gc) ∧ W.cell? ⟨bk, 5, none⟩ = some (.int .i64 v)) ∧ W.cell? ⟨p.pb, 0, none⟩ = some (.pointer (some ⟨p.tb, 0, none⟩))) (with_reducible first | exact HSX.out _ HOw.out | exact HSY.out _ HOu.out | exact HSY.out _ (Only.drew _ _)) (first
                | (go_at_call 40; (with_reducible refine (HFI.out _ (Only.drew _ _)).mono ?_); rintro r u ⟨rfl, hou⟩; have HOu : Hid (Only (fun _ => False) W9 u) := Lib.hid ((Only.drew _ _).same hou); clear hou)
                | (go_at_call 39; (with_reducible refine (HAD.out _ HOu.out).mono ?_); rintro r w10 ⟨rfl, ⟨own', hk10, hw10⟩, ho10⟩; have HK10 := Lib.hid hk10; have HW10 := Lib.hid hw10; clear hw10; have HOw := Lib.hid ho10; clear hk10 ho10))
              all_goals
                go_wp2_with fail
                go_meet
                exact ⟨rfl, own', Lib.hid ⟨HK10.out, HOw.out, HW10.out⟩⟩
            case rest =>
              obtain ⟨rfl, own', HK⟩ := hcut
              obtain ⟨WA, hWA⟩ : ∃ WA, WA = wc := ⟨_, rfl⟩
              subst hWA
              have HLV : Hid (-((N + 1 : Nat) : Int) ≤ p.lv ∧ p.lv ≤ ((N + 1 : Nat) : Int)) := Lib.hid (HF.out.k.lvs p HPM.out)
              have hpx : WA.heap[p.pb]? = some (.cells #[.pointer (some ⟨p.tb, 0, none⟩), .int .i64 p.lv] 88 (0, 0)) := (HK.out.1.pds { p with own := own', st := (addS p.st sl.length (firstK t) f).2 } (by simp)).box
              have q1 := cell_of_blk hpx 1
              simp only [List.getElem?_toArray, List.getElem?_cons_zero, List.getElem?_cons_succ] at q1
              have qf := free_of_blk hpx 1
              have hw : IntKind.i64.wrap (p.lv + 1) = p.lv + 1 := by have := HLV.out; rw [IntWalk.i64_in _ (by omega)]
              obtain ⟨WB, hWB⟩ : ∃ WB, WB = WA.setCell ⟨p.pb, 1, none⟩ (.int .i64 (p.lv + 1)) := ⟨_, rfl⟩
              have HKB : Hid (BK b pm (N + 1 + 1) (sl ++ [⟨nm, t.k, t.n, t.s, a, t.l.length, c, ga, gs.length, gg, v, ca, is.length, cc', gen + 1, 0⟩]) (A ++ { p with own := own', st := (addS p.st sl.length (firstK t) f).2, lv := p.lv + 1 } :: C) lim (gen + 1) sl.length (sl.length + 1) so' sc' np' Dp' WB ∧ Only (· = p.pb) WA WB) := Lib.hid (by
                have h1 := HK.out.1.counted (lv' := p.lv + 1) (by have := HLV.out; omega)
                rw [hWB]
                exact h1)
              clear hpx
              go_wp2_with fail
              rw [← hWB]
              clear hWB q1 qf hw
              go_ret2
              have hrel := rel_new (s0 := ⟨nm, t.k, t.n, t.s, a, t.l.length, c, ga, gs.length, gg, v, ca, is.length, cc', gen + 1, 0⟩) (p' := { p with own := own', st := (addS p.st sl.length (firstK t) f).2, lv := p.lv + 1 }) HIX.out HOU.out (new_id (sl.length : Int) (firstK t) f p.st.lo p.st.hi) HMI.out.1.symm rfl (add_L HID.out HLN.out)
              have hBK := HKB.out.1
              rw [show (sl.length : Int) + 1 = ((sl ++ [(⟨nm, t.k, t.n, t.s, a, t.l.length, c, ga, gs.length, gg, v, ca, is.length, cc', gen + 1, 0⟩ : Sl)]).length : Int) by simp] at hBK
              have hBI := hBK.i ⟨by omega, by rw [List.length_append, List.length_singleton]; omega⟩ hrel.1 hrel.2
              have h79 := HF.out.o
              have h9A := HK.out.2.1
              have hAB := HKB.out.2
              refine ⟨rfl, A, C, p, own', np', Dp', so', sc', a, c, ga, gg, ca, cc', HMI.out.1, HMI.out.2.1, hBI, ⟨W7.heap.size, M, HNB.out.1, ?_, ?_, ⟨?_, HF.out.c.2⟩, ?_⟩, ?_, ?_⟩
              · have h1 := h9A.size
                have h2 := hAB.size
                have h3 := HF.out.m.2
                omega
              · exact (HF.out.r.only h9A (fun k hk => by have := HF.out.m.2; omega) (fun k hk e => by have := (HKD.out k e).1; omega)).only hAB (fun k hk => by have := HF.out.m.2; have := h9A.size; omega) (fun k hk e => by have e' : k = p.pb := e; have := HPB.out; omega)
              · refine (HF.out.c.1.only h9A (fun g hg e => ?_)).only hAB (fun g hg e => ?_)
                · have h1 := (HF.out.c.1.head g hg).2.1
                  have := (HKD.out _ e).1
                  omega
                · have h1 := (HF.out.c.1.head g hg).2.1
                  have e' : g.block = p.pb := e
                  have := HPB.out
                  omega
              · have hlow : ∀ q ∈ A ++ p :: C, q.pb < W7.heap.size ∧ ∀ k, q.own k → k < W7.heap.size := fun q hq => ⟨lt_of_block (HG7.out.1.pds q hq).box, fun k hk => ((HG7.out.1.pds q hq).tab.kind k hk).lt⟩
                have hM9 := HF.out.m.2
                have h7 := HNB.out
                have hbo := HBO.out
                have hpo := HPO.out
                rintro k (rfl | ⟨g, hg, rfl⟩ | rfl | ⟨q, hq, hk⟩)
                · left; omega
                · rcases HF.out.n g hg with h1 | h1
                  · left
                    exact (HG7.out.1.row.head _ h1).2.2
                  · exact .inr h1
                · left; omega
                · rcases mem_mid (p := p) hq with rfl | hq
                  · rcases hk with rfl | hk
                    · exact .inl HPB.out
                    · rcases HK.out.2.2 k hk with h1 | h1
                      · exact .inl (HKD.out k h1).1
                      · right; omega
                  · rcases hk with rfl | hk
                    · exact .inl (hlow q hq).1
                    · exact .inl ((hlow q hq).2 k hk)
              · have h17 : Only (BaseS b pm so ps) w W7 := (HO.out.mono (fun _ _ e => e.elim)).same (HO7.out.mono (fun k _ e => e.elim (fun e => .inl e) (fun e => .inr (.inr (.inl e)))))
                have h19 : Only (BaseS b pm so ps) w W9 := h17.same (h79.mono (fun k _ e => e.elim (fun e => .inl e) (fun e => .inr (.inl e))))
                have hps : ∀ k, k < w.heap.size → (p.own k ∨ k = p.pb) → BaseS b pm so ps k := fun k hk e => by
                  rcases HMI.out.2.2 k e with h1 | h1
                  · exact .inr (.inr (.inr h1))
                  · omega
                exact (h19.trans h9A (fun k hk e => hps k hk (.inl e))).trans hAB (fun k hk e => hps k hk (.inr e))
              · have hM9 := HF.out.m
                have h7 := HNB.out
                have hold : ∀ q ∈ A ++ C, q ∈ ps := fun q hq => by
                  rcases HMI.out.2.1 with e | ⟨e1, e2, _⟩
                  · rw [e]
                    rcases List.mem_append.1 hq with hq | hq
                    · simp [hq]
                    · simp [hq]
                  · rw [e1, e2] at hq
                    exact hq
                have hp : ∀ k, (p.own k ∨ k = p.pb) → BaseS b pm so ps k ∨ w.heap.size ≤ k := fun k e => by
                  rcases HMI.out.2.2 k e with h1 | h1
                  · exact .inl (.inr (.inr (.inr h1)))
                  · right; omega
                have hq' : ∀ q ∈ A ++ C, ∀ k, (k = q.pb ∨ q.own k) → BaseS b pm so ps k ∨ w.heap.size ≤ k := fun q hq k hk => .inl (.inr (.inr (.inr ⟨q, hold q hq, hk⟩)))
                rintro k (rfl | ⟨g, hg, rfl⟩ | rfl | ⟨q, hq, hk⟩)
                · exact .inl (.inl rfl)
                · rcases HF.out.n g hg with h1 | h1
                  · exact .inl (.inr (.inl ⟨g, h1, rfl⟩))
                  · right; omega
                · exact .inl (.inr (.inr (.inl rfl)))
                · rcases List.mem_append.1 hq with hq | hq
                  · exact hq' q (by simp [hq]) k hk
                  · rcases List.mem_cons.1 hq with rfl | hq
                    · rcases hk with rfl | hk
                      · exact hp _ (.inr rfl)
                      · rcases HK.out.2.2 k hk with h1 | h1
                        · exact hp k (.inl h1)
                        · right; omega
                    · exact hq' q (by simp [hq]) k hk
end
end Go.Proofs.Ythfilpacmllhpab.bases
