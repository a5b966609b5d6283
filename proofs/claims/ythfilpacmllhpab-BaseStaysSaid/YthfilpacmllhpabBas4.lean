/- Clauses by generations: Head and Next. -/
import Derived.Test.YthfilpacmllhpabBas3
import Derived.Deep.RegionHeld3
namespace Go.Proofs.Ythfilpacmllhpab.bases
set_option maxRecDepth 100000
open Go.RowKit Go.Proofs.Ythfilpacmllhpab.own Go.Lib Go.Maps Go.WideMaps Go.Proofs.Ythfilpacmllhpab.idx
theorem drop_hit {α : Type} {q : α → Bool} {p j : Nat} {L : List α} {x : α} (hpj : p ≤ j) (hx : L[j]? = some x) (hm : q x = true) (hlt : ∀ (t : Nat) (y : α), p ≤ t → t < j → L[t]? = some y → q y = false) : (L.drop p).find? q = some x := by
  rw [List.find?_eq_some_iff_getElem]
  have hj := (List.getElem?_eq_some_iff.1 hx).1
  have hxe := (List.getElem?_eq_some_iff.1 hx).2
  refine ⟨hm, j - p, by simp; omega, ?_, fun r hr => ?_⟩
  · rw [List.getElem_drop]
    have : p + (j - p) = j := by omega
    simp only [this]
    exact hxe
  · rw [List.getElem_drop]
    have := hlt (p + r) _ (by omega) (by omega) (List.getElem?_eq_getElem (by omega))
    simp [this]
theorem drop_no {α : Type} {q : α → Bool} {p : Nat} {L : List α} (hlt : ∀ (t : Nat) (y : α), p ≤ t → L[t]? = some y → q y = false) : (L.drop p).find? q = none := by
  rw [List.find?_eq_none]
  intro x hx
  obtain ⟨i, hi⟩ := List.mem_iff_getElem?.1 hx
  rw [List.getElem?_drop] at hi
  simp [hlt (p + i) x (by omega) hi]
theorem idF_mem {L : List En} (h : Alone L) {e : En} (he : e ∈ L) : idF e.id L = some e := by
  obtain ⟨A, C, rfl⟩ := List.append_of_mem he
  exact idF_in h
theorem met_zero (L : List En) : metF zK L = L := by
  unfold metF
  rw [List.filter_eq_self]
  intro e _
  unfold meetB zK
  simp
theorem next_met {L : List En} (ha : Alone L) (hr : Rises L) {t : Nat} {x : En} (hx : L[t]? = some x) : nextF x.id zK L = L[t + 1]? := by
  have hx' : (metF zK L)[t]? = some x := by rw [met_zero]; exact hx
  have hm : x ∈ L := List.mem_of_getElem? hx
  unfold nextF
  rw [idF_mem ha hm]
  show firstF (x.pl + 1) zK L = _
  rw [first_next hr hx', met_zero]
/-- Does an entry's clause live? -/
def liveE (sl : List Sl) (g : Int) (e : En) : Bool := match sl[e.id.toNat]? with
  | some s => liveS g s
  | none => false
theorem liveE_of {sl : List Sl} {g : Int} {e : En} {i : Nat} {s : Sl} (hi : e.id = i) (hs : sl[i]? = some s) : liveE sl g e = liveS g s := by
  unfold liveE
  have : e.id.toNat = i := by omega
  rw [this, hs]
def ansE (o : Option En) : Value := .tuple #[.int .i64 (o.getD zE).id, .bool o.isSome]
section
variable {b pm N : Nat} {sl : List Sl} {ps : List Pc} {lim gen low : Int} {so : Option Addr} {sc np : Nat} {Dp : D3} {w W W' : World} {p : Pc}
theorem next_O (h : BI b pm N sl ps lim gen low so sc np Dp w) (hp : p ∈ ps) {t : Nat} {x : En} (hx : p.st.L[t]? = some x) : Calls Try.prog 49 #[.pointer (some ⟨p.tb, 0, none⟩), .int .i64 x.id, .agg #[.int .i64 0, .string ⟨#[]⟩, .int .i64 0]] w fun e w' => e = .returned (.tuple #[.int .i64 ((p.st.L[t + 1]?).getD zE).id, .bool (p.st.L[t + 1]?).isSome]) ∧ Only (fun _ => False) w w' := by
  have ht := (h.pds p hp).tab.tab
  have hf : Fit x.id := by
    obtain ⟨mr, mi, ks, ao, cap, nr, ni, Dr, Di, h1, h2⟩ := ht
    exact (h1.keys x (List.mem_of_getElem? hx)).2.1
  have := next_tab ht x.id hf zK zK_ok
  rwa [next_met ht.alone ht.between.rises hx] at this
theorem head_O (h : BI b pm N sl ps lim gen low so sc np Dp w) (hp : p ∈ ps) : Calls Try.prog 47 #[.pointer (some ⟨p.tb, 0, none⟩), .agg #[.int .i64 0, .string ⟨#[]⟩, .int .i64 0]] w fun e w' => e = .returned (.tuple #[.int .i64 ((p.st.L[0]?).getD zE).id, .bool (p.st.L[0]?).isSome]) ∧ Only (fun _ => False) w w' := by
  have ht := (h.pds p hp).tab.tab
  have := head_tab ht zK zK_ok
  rwa [first_low ht.between, met_zero] at this
set_option maxHeartbeats 8000000 in
theorem living_any (h : BI b pm N sl ps lim gen low so sc np Dp w) (hp : p ∈ ps) (j0 : Nat) (hj0 : j0 ≤ p.st.L.length) (g : Int) : Calls Try.prog 48 #[.pointer (some ⟨b, 0, none⟩), .pointer (some ⟨p.pb, 0, none⟩), .int .i64 ((p.st.L[j0]?).getD zE).id, .bool (p.st.L[j0]?).isSome, .agg #[.int .i64 0, .string ⟨#[]⟩, .int .i64 0], .int .i64 g] w fun e w' => e = .returned (ansE ((p.st.L.drop j0).find? (liveE sl g))) ∧ Only (fun _ => False) w w' := by
  obtain ⟨E, hE⟩ : ∃ E, E = w.alloc (.cells #[.int .i64 0, .string ⟨#[]⟩, .int .i64 0] 37) := ⟨_, rfl⟩
  have hx : Three w.heap.size zK E := by unfold Three; rw [hE]; exact heap_alloc_new _ _
  have HX := Lib.hid hx
  have HO : Hid (Only (fun _ => False) w E) := Lib.hid (by rw [hE]; exact Only.alloc _ _ _)
  have HH := Lib.hid h
  have HPP := Lib.hid hp
  have HKC : Hid (∀ W, Only (fun _ => False) E W → (W.cell? ⟨p.pb, 0, none⟩ = some (.pointer (some ⟨p.tb, 0, none⟩))) ∧ W.cell? ⟨w.heap.size, 0, none⟩ = some (.int .i64 0) ∧ W.cell? ⟨w.heap.size, 1, none⟩ = some (.string ⟨#[]⟩) ∧ W.cell? ⟨w.heap.size, 2, none⟩ = some (.int .i64 0)) := Lib.hid (fun W o => ⟨by
    have := ((h.later (HO.out.same o)).pds p hp).box
    rw [cell_of_blk this]; rfl, (hx.only o (fun e => e)).cells⟩)
  obtain ⟨L, hL⟩ : ∃ L, L = p.st.L := ⟨_, rfl⟩
  have HL := Lib.hid hL
  rw [← hL] at hj0 ⊢
  clear h hp hx hL
  go_enter Try.func48, Try.ntmps48
  go_upto_region 1 with fail
  rw [← hE]
  clear hE
  generalize w.heap.size = bk at *
  go_loopg [2, 3] (L.length - j0) (fun gk s2 s3 wr => ∃ j : Nat, j0 ≤ j ∧ j ≤ L.length ∧ gk = L.length - j ∧ s2 = .int .i64 ((L[j]?).getD zE).id ∧ s3 = .bool (L[j]?).isSome ∧ Hid (Only (fun _ => False) E wr ∧ ∀ (t : Nat) (y : En), j0 ≤ t → t < j → L[t]? = some y → liveE sl g y = false))
  case atStart => exact ⟨j0, Nat.le_refl _, hj0, rfl, rfl, rfl, Lib.hid ⟨Only.refl _ _, fun t y h1 h2 => by omega⟩⟩
  case round =>
    obtain ⟨j, hj1, hj2, hgk, rfl, rfl, hI⟩ := hrel
    have HGK := Lib.hid hgk
    have HJ1 := Lib.hid hj1
    clear hgk hj1
    cases hx : L[j]? with
    | none =>
      have hd : (L.drop j0).find? (liveE sl g) = none := drop_no (fun t y h1 hy => by
        have h2 := (List.getElem?_eq_some_iff.1 hy).1
        have h3 := List.getElem?_eq_none_iff.1 hx
        exact hI.out.2 t y h1 (by omega) hy)
      have HD := Lib.hid hd
      have HFN := Lib.hid (HO.out.same hI.out.1)
      clear hx hd hI
      simp only [Option.getD_none, Option.isSome_none]
      go_wp2_with fail
      go_ret2
      exact ⟨by rw [HD.out]; rfl, HFN.out⟩
    | some x =>
      have htl : j < L.length := (List.getElem?_eq_some_iff.1 hx).1
      have hxm : x ∈ p.st.L := by rw [← HL.out]; exact List.mem_of_getElem? hx
      obtain ⟨i, s, hxi, hs, _⟩ := HH.out.outs p HPP.out x hxm
      have HB := Lib.hid (HH.out.later (HO.out.same hI.out.1))
      have HLV := Lib.hid (lives_yes HB.out hs g)
      have HXX := Lib.hid hx
      have hle := liveE_of (g := g) hxi hs
      simp only [Option.getD_some, Option.isSome_some]
      rw [hxi]
      cases hlv : liveS g s with
      | true =>
        rw [hlv] at HLV hle
        have hd : (L.drop j0).find? (liveE sl g) = some x := drop_hit HJ1.out hx hle hI.out.2
        have HD := Lib.hid hd
        have HXI := Lib.hid hxi
        have HFN := Lib.hid (HO.out.same hI.out.1)
        clear hx hd hI hs hle hlv hxm hxi
        go_wp2_with fail
        refine HLV.out.mono ?_
        rintro e w1 ⟨rfl, rfl⟩
        go_wp2_with fail
        go_ret2
        exact ⟨by rw [HD.out]; show _ = Ending.returned (.tuple #[.int .i64 x.id, .bool true]); rw [HXI.out]; rfl, HFN.out⟩
      | false =>
        rw [hlv] at HLV hle
        have HLE := Lib.hid hle
        have HNX : Hid (∀ W, Only (fun _ => False) wr W → Calls Try.prog 49 #[.pointer (some ⟨p.tb, 0, none⟩), .int .i64 i, .agg #[.int .i64 0, .string ⟨#[]⟩, .int .i64 0]] W fun e w' => e = .returned (.tuple #[.int .i64 ((L[j + 1]?).getD zE).id, .bool (L[j + 1]?).isSome]) ∧ Only (fun _ => False) W w') := Lib.hid (fun W o => by
          have := next_O (HB.out.later o) HPP.out (t := j) (x := x) (by rw [← HL.out]; exact hx)
          rw [← HL.out, hxi] at this
          exact this)
        have HKX : Hid (∀ W, Only (fun _ => False) wr W → (W.cell? ⟨p.pb, 0, none⟩ = some (.pointer (some ⟨p.tb, 0, none⟩))) ∧ W.cell? ⟨bk, 0, none⟩ = some (.int .i64 0) ∧ W.cell? ⟨bk, 1, none⟩ = some (.string ⟨#[]⟩) ∧ W.cell? ⟨bk, 2, none⟩ = some (.int .i64 0)) := Lib.hid (fun W o => HKC.out W (hI.out.1.same o))
        clear hx hs hle hlv hxm hxi
        go_wp2_with fail
        refine HLV.out.mono ?_
        rintro e w1 ⟨rfl, rfl⟩
        clear HB HLV
        go_wp2_with fail
        go_region_held3 (fun W => (W.cell? ⟨p.pb, 0, none⟩ = some (.pointer (some ⟨p.tb, 0, none⟩))) ∧ W.cell? ⟨bk, 0, none⟩ = some (.int .i64 0) ∧ W.cell? ⟨bk, 1, none⟩ = some (.string ⟨#[]⟩) ∧ W.cell? ⟨bk, 2, none⟩ = some (.int .i64 0)) (with_reducible first | exact HKX.out _ HU.out | exact HKX.out _ (Only.drew _ _)) (first
          | (go_at_call 49; (with_reducible refine (HNX.out _ (Only.drew _ _)).mono ?_); rintro r u ⟨rfl, hou⟩; have HU : Hid (Only (fun _ => False) w1 u) := Lib.hid ((Only.drew _ _).same hou); clear hou))
        all_goals
          go_wp2_with fail
          go_roundg (L.length - (j + 1))
          case rel =>
            refine ⟨j + 1, by have := HJ1.out; omega, by omega, rfl, rfl, rfl, Lib.hid ⟨hI.out.1.same HU.out, fun t y h1 h2 hy => ?_⟩⟩
            by_cases htj : t < j
            · exact hI.out.2 t y h1 htj hy
            · obtain rfl : t = j := by omega
              rw [HXX.out] at hy
              injection hy with hy
              rw [← hy]
              exact HLE.out
          case measure => have := HGK.out; omega
/-- The first clause of a predicate that lives. -/
theorem head_yes (h : BI b pm N sl ps lim gen low so sc np Dp w) (hp : p ∈ ps) (g : Int) : Calls Try.prog 15 #[.pointer (some ⟨b, 0, none⟩), .string p.nm.s, .int .i64 p.nm.a, .agg #[.int .i64 0, .string ⟨#[]⟩, .int .i64 0], .int .i64 g] w fun e w' => e = .returned (ansE (p.st.L.find? (liveE sl g))) ∧ Only (fun _ => False) w w' := by
  obtain ⟨E, hE⟩ : ∃ E, E = w.alloc (.cells #[.int .i64 0, .string ⟨#[]⟩, .int .i64 0] 37) := ⟨_, rfl⟩
  have hx : Three w.heap.size zK E := by unfold Three; rw [hE]; exact heap_alloc_new _ _
  have HX := Lib.hid hx
  have HO : Hid (Only (fun _ => False) w E) := Lib.hid (by rw [hE]; exact Only.alloc _ _ _)
  have hE' := h.later HO.out
  have HC := Lib.hid (closed_no hE')
  obtain ⟨c0, c1, c2, c3, c4, c5⟩ := hE'.cells
  have hlk := look_ns hE'.pmap hE'.nmap hE'.nok (hE'.nok.ok (p.nm, p.pb) (List.mem_map.2 ⟨p, hp, rfl⟩))
  rw [nsF_mem hE'.nok (List.mem_map.2 ⟨p, hp, rfl⟩)] at hlk
  simp only [pbV, Option.map_some] at hlk
  have HB := Lib.hid hE'
  have HPP := Lib.hid hp
  have HKC : Hid (∀ W, Only (fun _ => False) E W → (W.cell? ⟨p.pb, 0, none⟩ = some (.pointer (some ⟨p.tb, 0, none⟩))) ∧ W.cell? ⟨w.heap.size, 0, none⟩ = some (.int .i64 0) ∧ W.cell? ⟨w.heap.size, 1, none⟩ = some (.string ⟨#[]⟩) ∧ W.cell? ⟨w.heap.size, 2, none⟩ = some (.int .i64 0)) := Lib.hid (fun W o => ⟨by
    have := ((hE'.later o).pds p hp).box
    rw [cell_of_blk this]; rfl, (hx.only o (fun e => e)).cells⟩)
  have HHD : Hid (∀ W, Only (fun _ => False) E W → Calls Try.prog 47 #[.pointer (some ⟨p.tb, 0, none⟩), .agg #[.int .i64 0, .string ⟨#[]⟩, .int .i64 0]] W fun e w' => e = .returned (.tuple #[.int .i64 ((p.st.L[0]?).getD zE).id, .bool (p.st.L[0]?).isSome]) ∧ Only (fun _ => False) W w') := Lib.hid (fun W o => head_O (hE'.later o) hp)
  have HLV : Hid (∀ W, Only (fun _ => False) E W → Calls Try.prog 48 #[.pointer (some ⟨b, 0, none⟩), .pointer (some ⟨p.pb, 0, none⟩), .int .i64 ((p.st.L[0]?).getD zE).id, .bool (p.st.L[0]?).isSome, .agg #[.int .i64 0, .string ⟨#[]⟩, .int .i64 0], .int .i64 g] W fun e w' => e = .returned (ansE (p.st.L.find? (liveE sl g))) ∧ Only (fun _ => False) W w') := Lib.hid (fun W o => by
    have := living_any (hE'.later o) hp 0 (Nat.zero_le _) g
    rwa [List.drop_zero] at this)
  generalize ((p.st.L[0]?).getD zE).id = q1 at *
  generalize (p.st.L[0]?).isSome = q2 at *
  generalize p.st.L.find? (liveE sl g) = res at *
  clear h hp hx hE'
  go_enter Try.func15, Try.ntmps15
  go_upto_region 1 with fail
  rw [← hE]
  clear hE
  generalize w.heap.size = bk at *
  go_wp2_with fail
  refine HC.out.mono ?_
  rintro e w1 ⟨rfl, rfl⟩
  go_wp2_with fail
  clear c0 c1 c2 c3 c4 c5 hlk
  go_cut [13, 14] (fun s13 s14 wx => s13 = .int .i64 q1 ∧ s14 = .bool q2 ∧ Hid (Only (fun _ => False) w1 wx))
  case first =>
    go_region_held3 (fun W => (W.cell? ⟨p.pb, 0, none⟩ = some (.pointer (some ⟨p.tb, 0, none⟩))) ∧ W.cell? ⟨bk, 0, none⟩ = some (.int .i64 0) ∧ W.cell? ⟨bk, 1, none⟩ = some (.string ⟨#[]⟩) ∧ W.cell? ⟨bk, 2, none⟩ = some (.int .i64 0)) (with_reducible first | exact HKC.out _ HU.out | exact HKC.out _ (Only.drew _ _)) (first
      | (go_at_call 47; (with_reducible refine (HHD.out _ (Only.drew _ _)).mono ?_); rintro r u ⟨rfl, hou⟩; have HU : Hid (Only (fun _ => False) w1 u) := Lib.hid ((Only.drew _ _).same hou); clear hou))
    all_goals
      go_wp2_with fail
      go_meet
      exact ⟨rfl, rfl, HU⟩
  case rest =>
    obtain ⟨rfl, rfl, hC⟩ := hcut
    obtain ⟨_, k0, k1, k2⟩ := HKC.out _ hC.out
    go_wp2_with fail
    refine (HLV.out _ hC.out).mono ?_
    rintro e w2 ⟨rfl, ho2⟩
    have HO2 := Lib.hid ((HO.out.same hC.out).same ho2)
    clear ho2 k0 k1 k2
    unfold ansE
    go_wp2_with fail
    go_ret2
    exact ⟨rfl, HO2.out⟩
/-- The next clause of the same predicate that lives. -/
theorem next_yes (h : BI b pm N sl ps lim gen low so sc np Dp w) (hp : p ∈ ps) {j : Nat} {x : En} (hx : p.st.L[j]? = some x) (g : Int) : Calls Try.prog 16 #[.pointer (some ⟨b, 0, none⟩), .int .i64 x.id, .agg #[.int .i64 0, .string ⟨#[]⟩, .int .i64 0], .int .i64 g] w fun e w' => e = .returned (ansE ((p.st.L.drop (j + 1)).find? (liveE sl g))) ∧ Only (fun _ => False) w w' := by
  obtain ⟨E, hE⟩ : ∃ E, E = w.alloc (.cells #[.int .i64 0, .string ⟨#[]⟩, .int .i64 0] 37) := ⟨_, rfl⟩
  have ht : Three w.heap.size zK E := by unfold Three; rw [hE]; exact heap_alloc_new _ _
  have HO : Hid (Only (fun _ => False) w E) := Lib.hid (by rw [hE]; exact Only.alloc _ _ _)
  have hE' := h.later HO.out
  have HC := Lib.hid (closed_no hE')
  obtain ⟨i, s, hxi, hs, hnm⟩ := h.outs p hp x (List.mem_of_getElem? hx)
  have HH := Lib.hid (has_yes hE' hs)
  have hj1 : j + 1 ≤ p.st.L.length := (List.getElem?_eq_some_iff.1 hx).1
  have hi : i < sl.length := (List.getElem?_eq_some_iff.1 hs).1
  have hlk0 := look_ns hE'.pmap hE'.nmap hE'.nok (hE'.nok.ok (p.nm, p.pb) (List.mem_map.2 ⟨p, hp, rfl⟩))
  rw [nsF_mem hE'.nok (List.mem_map.2 ⟨p, hp, rfl⟩)] at hlk0
  simp only [pbV, Option.map_some] at hlk0
  have hlk : ∀ q, (Instr.lookup 77 (.map (some pm)) (.agg #[.string s.nm.s, .int .i64 s.nm.a]) false).run Try.prog (E.drewN q) = .ok (.pointer (some ⟨p.pb, 0, none⟩)) (E.drewN q) := fun q => by
    have hq := hE'.later (Only.drewN (fun _ => False) E q)
    have := look_ns hq.pmap hq.nmap hq.nok (hq.nok.ok (p.nm, p.pb) (List.mem_map.2 ⟨p, hp, rfl⟩))
    rw [nsF_mem hq.nok (List.mem_map.2 ⟨p, hp, rfl⟩)] at this
    rw [hnm]
    exact this
  clear hlk0
  obtain ⟨c0, c1, c2, c3, c4, c5⟩ := hE'.cells
  obtain ⟨g0, rfl, hg, d0, d1, _, _, _, _, _, _, _, _, _, _⟩ := hE'.slot hs
  have HKC : Hid (∀ W, Only (fun _ => False) E W → (W.cell? ⟨p.pb, 0, none⟩ = some (.pointer (some ⟨p.tb, 0, none⟩))) ∧ W.cell? ⟨w.heap.size, 0, none⟩ = some (.int .i64 0) ∧ W.cell? ⟨w.heap.size, 1, none⟩ = some (.string ⟨#[]⟩) ∧ W.cell? ⟨w.heap.size, 2, none⟩ = some (.int .i64 0)) := Lib.hid (fun W o => ⟨by
    have := ((hE'.later o).pds p hp).box
    rw [cell_of_blk this]; rfl, (ht.only o (fun e => e)).cells⟩)
  rw [hxi]
  have HNX : Hid (∀ W, Only (fun _ => False) E W → Calls Try.prog 49 #[.pointer (some ⟨p.tb, 0, none⟩), .int .i64 i, .agg #[.int .i64 0, .string ⟨#[]⟩, .int .i64 0]] W fun e w' => e = .returned (.tuple #[.int .i64 ((p.st.L[j + 1]?).getD zE).id, .bool (p.st.L[j + 1]?).isSome]) ∧ Only (fun _ => False) W w') := Lib.hid (fun W o => by rw [← hxi]; exact next_O (hE'.later o) hp hx)
  have HLV : Hid (∀ W, Only (fun _ => False) E W → Calls Try.prog 48 #[.pointer (some ⟨b, 0, none⟩), .pointer (some ⟨p.pb, 0, none⟩), .int .i64 ((p.st.L[j + 1]?).getD zE).id, .bool (p.st.L[j + 1]?).isSome, .agg #[.int .i64 0, .string ⟨#[]⟩, .int .i64 0], .int .i64 g] W fun e w' => e = .returned (ansE ((p.st.L.drop (j + 1)).find? (liveE sl g))) ∧ Only (fun _ => False) W w') := Lib.hid (fun W o => living_any (hE'.later o) hp (j + 1) hj1 g)
  generalize ((p.st.L[j + 1]?).getD zE).id = q1 at *
  generalize (p.st.L[j + 1]?).isSome = q2 at *
  generalize (p.st.L.drop (j + 1)).find? (liveE sl g) = res at *
  have h0' : (0 : Int) ≤ (i : Int) := by omega
  have h1 : (i : Int) < (sl.length : Int) := by omega
  generalize sl.length = n at *
  clear h hp hx ht hE' hs hxi hnm hg hj1
  go_enter Try.func16, Try.ntmps16
  go_upto_region 1 with fail
  rw [← hE]
  clear hE
  generalize w.heap.size = bk at *
  go_wp2_with fail
  refine HC.out.mono ?_
  rintro e w1 ⟨rfl, rfl⟩
  go_wp2_with fail
  refine HH.out.mono ?_
  rintro e w1 ⟨rfl, rfl⟩
  go_wp2_with fail
  go_quiet (fail)
  have HO1 : Hid (Only (fun _ => False) w1 (w1.drewN nq)) := Lib.hid (Only.drewN _ _ _)
  generalize w1.drewN nq = w2 at *
  clear c0 c1 c2 c3 c4 c5 d0 d1 hlk
  go_wp2_with fail
  go_cut [11, 12] (fun s13 s14 wx => s13 = .int .i64 q1 ∧ s14 = .bool q2 ∧ Hid (Only (fun _ => False) w1 wx))
  case first =>
    go_region_held3 (fun W => (W.cell? ⟨p.pb, 0, none⟩ = some (.pointer (some ⟨p.tb, 0, none⟩))) ∧ W.cell? ⟨bk, 0, none⟩ = some (.int .i64 0) ∧ W.cell? ⟨bk, 1, none⟩ = some (.string ⟨#[]⟩) ∧ W.cell? ⟨bk, 2, none⟩ = some (.int .i64 0)) (with_reducible first | exact HKC.out _ HU.out | exact HKC.out _ (HO1.out.same (Only.drew _ _))) (first
      | (go_at_call 49; (with_reducible refine (HNX.out _ (HO1.out.same (Only.drew _ _))).mono ?_); rintro r u ⟨rfl, hou⟩; have HU : Hid (Only (fun _ => False) w1 u) := Lib.hid ((HO1.out.same (Only.drew _ _)).same hou); clear hou))
    all_goals
      go_wp2_with fail
      go_meet
      exact ⟨rfl, rfl, HU⟩
  case rest =>
    obtain ⟨rfl, rfl, hC⟩ := hcut
    obtain ⟨_, k0, k1, k2⟩ := HKC.out _ hC.out
    go_wp2_with fail
    refine (HLV.out _ hC.out).mono ?_
    rintro e w3 ⟨rfl, ho2⟩
    have HO2 := Lib.hid ((HO.out.same hC.out).same ho2)
    clear ho2 k0 k1 k2
    unfold ansE
    go_wp2_with fail
    go_ret2
    exact ⟨rfl, HO2.out⟩
end
end Go.Proofs.Ythfilpacmllhpab.bases
