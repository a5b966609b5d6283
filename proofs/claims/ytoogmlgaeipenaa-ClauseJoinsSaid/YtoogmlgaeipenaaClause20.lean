/- Clauses: the term of any clause. -/
import Derived.Test.YtoogmlgaeipenaaClause19
namespace Go.Proofs.Ytoogmlgaeipenaa.terms
set_option maxRecDepth 100000
open Go.RowKit Go.Proofs.Ytoogmlgaeipenaa.own Go.Maps
set_option maxHeartbeats 8000000 in
theorem Back_none (h : T) (ho : Option Addr) (hc : Nat) (go : Option Addr) (gc n : Nat) (w : World) (hs : h.Sane) (hl : Lies w ho h.l) (hz : h.size ≤ 900000) :
    Calls Try.prog 17 #[.agg #[.int .i64 h.k, .int .i64 h.n, .string h.s, .slice ho h.l.length hc, .slice go 0 gc, .int .i64 n]] w fun e w' => ∃ a c, e = .returned (tv (clF h) a c) ∧ Lies w' a (clF h).l ∧ Only (fun _ => False) w w' := by
  have hq0 : Hex w.heap.size (.int .i64 h.k) (.int .i64 h.n) (.string h.s) (.slice ho h.l.length hc) (.slice go 0 gc) (.int .i64 n) ((w.alloc (.cells #[.int .i64 h.k, .int .i64 h.n, .string h.s, .slice ho h.l.length hc, .slice go 0 gc, .int .i64 n] 37)).alloc (.cells #[.int .i64 0, .int .i64 0, .string ⟨#[]⟩, .slice none 0 0] 24)) := Hex.only (b := w.heap.size) (heap_alloc_new w _) (Only.alloc (fun _ => False) _ _) (fun e => e)
  have hz0 : Zero (w.heap.size + 1) ((w.alloc (.cells #[.int .i64 h.k, .int .i64 h.n, .string h.s, .slice ho h.l.length hc, .slice go 0 gc, .int .i64 n] 37)).alloc (.cells #[.int .i64 0, .int .i64 0, .string ⟨#[]⟩, .slice none 0 0] 24)) := by
    have := Zero.new (w.alloc (.cells #[.int .i64 h.k, .int .i64 h.n, .string h.s, .slice ho h.l.length hc, .slice go 0 gc, .int .i64 n] 37))
    rwa [show (w.alloc (.cells #[.int .i64 h.k, .int .i64 h.n, .string h.s, .slice ho h.l.length hc, .slice go 0 gc, .int .i64 n] 37)).heap.size = w.heap.size + 1 by simp] at this
  have ho0 : Only (fun _ => False) w ((w.alloc (.cells #[.int .i64 h.k, .int .i64 h.n, .string h.s, .slice ho h.l.length hc, .slice go 0 gc, .int .i64 n] 37)).alloc (.cells #[.int .i64 0, .int .i64 0, .string ⟨#[]⟩, .slice none 0 0] 24)) := (Only.alloc _ _ _).same (Only.alloc _ _ _)
  have hsz0 : ((w.alloc (.cells #[.int .i64 h.k, .int .i64 h.n, .string h.s, .slice ho h.l.length hc, .slice go 0 gc, .int .i64 n] 37)).alloc (.cells #[.int .i64 0, .int .i64 0, .string ⟨#[]⟩, .slice none 0 0] 24)).heap.size = w.heap.size + 2 := by simp
  have HZ0 := Lib.hid hz0
  have HO0 := Lib.hid ho0
  have HSZ0 := Lib.hid hsz0
  have HCL := Lib.hid (Clone_any h _ ho hc (hl.later ho0) hs hz)
  obtain ⟨c0, c1, c2, c3, c4, c5⟩ := hq0.cells
  clear hq0 hz0 ho0 hsz0 hs hl hz
  go_enter Try.func17, Try.ntmps17
  go_wp2_with fail
  generalize (w.alloc (.cells #[.int .i64 h.k, .int .i64 h.n, .string h.s, .slice ho h.l.length hc, .slice go 0 gc, .int .i64 n] 37)).alloc (.cells #[.int .i64 0, .int .i64 0, .string ⟨#[]⟩, .slice none 0 0] 24) = w1 at *
  refine HCL.out.mono ?_
  rintro e w2 ⟨a1, k1, rfl, hr2, ho2⟩
  have HR2 := Lib.hid hr2
  have HZ2 := Lib.hid (HZ0.out.only ho2 (fun e => e))
  have HO2 := Lib.hid (HO0.out.same ho2)
  clear c0 c1 c2 c3 c4 c5 hr2 ho2 HCL
  obtain ⟨c0, c1, c2, c3⟩ := HZ2.out.cells
  obtain ⟨f0, f1, f2, f3⟩ := HZ2.out.free
  obtain ⟨v, hv⟩ : ∃ v, v = clF h := ⟨_, rfl⟩
  rw [← hv] at HR2
  have HV := Lib.hid hv
  have HS := Lib.hid (HZ2.out.set (.int .i64 v.k) (.int .i64 v.n) (.string v.s) (.slice a1 v.l.length k1))
  show _
  rw [show tv (clF h) a1 k1 = .agg #[.int .i64 v.k, .int .i64 v.n, .string v.s, .slice a1 v.l.length k1] by rw [hv]]
  clear hv
  go_wp2_with fail
  have hcc := HS.out.1.cells
  refine bodyPost_ret (v := tv v a1 k1) (results_term rfl _ _ (w.heap.size + 1) _ _ _ _ rfl hcc.1 hcc.2.1 hcc.2.2.1 hcc.2.2.2) rfl ?_
  rw [← HV.out]
  exact ⟨a1, k1, rfl, (HR2.out.only HS.out.2 (fun q hq => hq.2) (fun q hq e => by have := hq.1; have := HSZ0.out; omega)).mono (fun q hq => Nat.lt_of_lt_of_le hq.2 HS.out.2.size), Only.cut HO2.out HS.out.2 (fun k e => by omega)⟩
theorem backT_nil (h : T) : backT h [] = h := rfl
theorem backT_snoc (h : T) (gs : List T) (z : T) : backT h (gs ++ [z]) = .mk 4 0 nIf [h, joinF (gs.map calF) (calF z)] := by
  unfold backT
  simp
theorem Back_any (h : T) (gs : List T) (ho : Option Addr) (hc : Nat) (go : Option Addr) (gc : Nat) (gl : List Gl) (n : Nat) (w : World) (H : ClI h gs ho go gc gl w) (hn : gl.length ≤ 200) (hz : (backT h gs).size ≤ 900000) :
    Calls Try.prog 17 #[.agg #[.int .i64 h.k, .int .i64 h.n, .string h.s, .slice ho h.l.length hc, .slice go gl.length gc, .int .i64 n]] w fun e w' => ∃ a c, e = .returned (tv (clF (backT h gs)) a c) ∧ Lies w' a (clF (backT h gs)).l ∧ Only (fun _ => False) w w' := by
  rcases List.eq_nil_or_concat gl with rfl | ⟨gl0, y, hgl⟩
  · have e : gs = [] := by rw [← H.eq]; rfl
    subst e
    rw [backT_nil] at hz ⊢
    exact Back_none h ho hc go gc n w H.sane H.lies hz
  · rw [List.concat_eq_append] at hgl
    have e : gs = gl0.map (·.x.t) ++ [y.x.t] := by rw [← H.eq, hgl]; simp
    subst e
    rw [backT_snoc, List.map_map] at hz ⊢
    obtain ⟨g, rfl⟩ : ∃ g, go = some ⟨g, 0, none⟩ := rowNew_block liesG (by rw [← hgl]; exact H.row)
    exact Back_many h y.x.t gl0 y gl hgl rfl ho hc g gc n w H.sane H.lies H.row H.good hn hz
end Go.Proofs.Ytoogmlgaeipenaa.terms
