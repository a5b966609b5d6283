/- Selection by keys: the call Add. -/
import Derived.Test.YthgjedcelcanbaaIdx15
import Derived.StillTailTactics
namespace Go.Proofs.Ythgjedcelcanbaa.idx
set_option maxRecDepth 100000
open Go.RowKit Go.Proofs.Ythgjedcelcanbaa.own Go.Lib Go.Maps Go.WideMaps
section
variable {b mr mi N : Nat} {L : List En} {lo hi : Int} {ks : Ks} {ao : Option Addr} {cap nr ni : Nat} {Dr : D2} {Di : D1} {w w' : World}
theorem TabI.boxed (h : TabI b mr mi N L lo hi ks ao cap nr ni Dr Di w) (o : Only (· = b) w w') {lo' hi' : Int} (hb : w'.heap[b]? = some (.cells #[.slice ao L.length cap, .map (some mr), .map (some mi), .int .i64 lo', .int .i64 hi'] 53 (0, 0))) (hp : Between L lo' hi') (hn : nr ≤ N + 1 ∧ ni ≤ N + 1 ∧ -(1 + ((N + 1 : Nat) : Int)) ≤ lo' ∧ lo' ≤ -1 ∧ 0 ≤ hi' ∧ hi' ≤ ((N + 1 : Nat) : Int) ∧ N + 1 ≤ 1000000) : TabI b mr mi (N + 1) L lo' hi' ks ao cap nr ni Dr Di w' := by
  have hbm : b ≠ mi ∧ b ≠ mr := by
    obtain ⟨_, _, hmi0, _⟩ := id h.idm
    obtain ⟨_, _, hmr0, _⟩ := id h.rkm
    constructor <;> (intro e; have := h.box; rw [e] at this; first | (rw [hmi0] at this; cases this) | (rw [hmr0] at this; cases this))
  have hr : ∀ (q : Option Addr) (cq : Nat) (xs : List En), RowE q cq xs w → RowE q cq xs w' := fun q cq xs hq => hq.only o (fun g hg x => row_apart hq h.box (by decide) ⟨g, hg, x.symm⟩)
  exact ⟨hb, hr _ _ _ h.row, ownsMap_only h.idm o (fun x => hbm.1 x.symm), h.idl, ownsMap_only h.rkm o (fun x => hbm.2 x.symm), h.rkl, h.ksok, fun p hp => ⟨hr _ _ _ (h.rows p hp).1, (h.rows p hp).2⟩, h.cover, h.ap1, h.ap2, h.apm, hp, h.alone, h.keys, h.few, hn⟩
theorem TabI.placed (h : TabI b mr mi N L lo hi ks ao cap nr ni Dr Di w) (hN : N + 1 ≤ 1000000) (f : Bool) : Calls Try.prog 29 #[.pointer (some ⟨b, 0, none⟩), .bool f] w fun e w' => e = .returned (.int .i64 (if f = true then lo else hi)) ∧ TabI b mr mi (N + 1) L (if f = true then lo - 1 else lo) (if f = true then hi else hi + 1) ks ao cap nr ni Dr Di w' ∧ Only (· = b) w w' := by
  have hn := h.nums
  cases f with
  | true =>
    refine (place_front h).mono ?_
    rintro e w' ⟨rfl, rfl⟩
    have o : Only (· = b) w (w.setCell ⟨b, 3, none⟩ (.int .i64 (lo - 1))) := Only.setCell (S := (· = b)) (p := ⟨b, 3, none⟩) w rfl _
    refine ⟨rfl, h.boxed o (by rw [blk_set h.box 3]; rfl) ⟨h.pl.rises, fun x hx => by have := h.pl.low x hx; simp; omega, h.pl.high⟩ (by simp; omega), o⟩
  | false =>
    refine (place_back h).mono ?_
    rintro e w' ⟨rfl, rfl⟩
    have o : Only (· = b) w (w.setCell ⟨b, 4, none⟩ (.int .i64 (hi + 1))) := Only.setCell (S := (· = b)) (p := ⟨b, 4, none⟩) w rfl _
    refine ⟨rfl, h.boxed o (by rw [blk_set h.box 4]; rfl) ⟨h.pl.rises, h.pl.low, fun x hx => by have := h.pl.high x hx; simp; omega⟩ (by simp; omega), o⟩
/-- The blocks of a kind that tables own, from a number on. -/
def Ixy (B : Nat) (W : World) (k : Nat) : Prop := B ≤ k ∧ ((∃ cs, W.heap[k]? = some (.cells cs 53 (0, 0))) ∨ (∃ cs, W.heap[k]? = some (.cells cs 60 (0, 0))) ∨ (∃ es c, W.heap[k]? = some (.map es c)))
/-- A table's blocks lie from a number on. -/
structure Ab (B b mr mi : Nat) (ao : Option Addr) (ks : Ks) : Prop where
  b : B ≤ b
  mr : B ≤ mr
  mi : B ≤ mi
  row : ∀ k, RowAt ao k → B ≤ k
  rows : ∀ p ∈ ks, ∀ k, RowAt p.2.1 k → B ≤ k
def TabB (B b N : Nat) (L : List En) (lo hi : Int) (W : World) : Prop := ∃ mr mi ks ao cap nr ni Dr Di, TabI b mr mi N L lo hi ks ao cap nr ni Dr Di W ∧ Ab B b mr mi ao ks
theorem Ab.put {B b mr mi : Nat} {ao ao' : Option Addr} {ks : Ks} (h : Ab B b mr mi ao ks) {n n' : Nat} (hn : B ≤ n) (hn' : B ≤ n') (h1 : NewRow n ao ao') {k : Ky} {a a' : Option Addr} {m c : Nat} (ha : ∀ k, RowAt a k → B ≤ k) (h2 : NewRow n' a a') : Ab B b mr mi ao' (setK ks k (a', m, c)) := by
  have hr : ∀ {x x' : Option Addr} {q : Nat}, B ≤ q → NewRow q x x' → (∀ k, RowAt x k → B ≤ k) → ∀ k, RowAt x' k → B ≤ k := fun hq hw hx k hk => by
    obtain ⟨g, hg, rfl⟩ := hk
    rcases hw g hg with e | e
    · exact hx _ ⟨g, e, rfl⟩
    · omega
  refine ⟨h.b, h.mr, h.mi, hr hn h1 h.row, fun p hp k hk => ?_⟩
  rcases List.mem_cons.1 hp with rfl | hp
  · exact hr hn' h2 ha k hk
  · exact h.rows p (List.mem_filter.1 hp).1 k hk
set_option maxHeartbeats 8000000 in
theorem add_there (h : TabI b mr mi N L lo hi ks ao cap nr ni Dr Di w) (i : Int) (hi : Fit i) (k : Ky) (f : Bool) (x : En) (hx : idF i L = some x) :
    Calls Try.prog 14 #[.pointer (some ⟨b, 0, none⟩), .int .i64 i, kyV k, .bool f] w fun e w' => e = .returned (.int .i64 5) ∧ Only (fun _ => False) w w' := by
  obtain ⟨E, hE⟩ : ∃ E, E = w.alloc (.cells #[.int .i64 k.k, .string k.s, .int .i64 k.n] 32) := ⟨_, rfl⟩
  have ho : Only (fun _ => False) w E := by rw [hE]; exact Only.alloc _ _ _
  have HO := Lib.hid ho
  have HCL := Lib.hid (closed_no (h.later ho))
  obtain ⟨c0, c1, c2, c3, c4⟩ := (h.later ho).cells
  have hlk := (h.later ho).look_id hi
  rw [hx] at hlk
  simp only [Option.getD_some, Option.isSome_some] at hlk
  clear h ho hx
  go_enter Try.func14, Try.ntmps14
  go_upto_region 1 with fail
  rw [← hE]
  clear hE
  go_wp2_with fail
  refine HCL.out.mono ?_
  rintro e w1 ⟨rfl, rfl⟩
  go_wp2_with fail
  go_ret
  exact ⟨rfl, HO.out.same (Only.alloc _ _ _)⟩
set_option maxHeartbeats 8000000 in
theorem add_full (h : TabI b mr mi N L lo hi ks ao cap nr ni Dr Di w) (i : Int) (hi : Fit i) (k : Ky) (f : Bool) (hx : idF i L = none) (hn : 4096 ≤ L.length) :
    Calls Try.prog 14 #[.pointer (some ⟨b, 0, none⟩), .int .i64 i, kyV k, .bool f] w fun e w' => e = .returned (.int .i64 2) ∧ Only (fun _ => False) w w' := by
  obtain ⟨E, hE⟩ : ∃ E, E = w.alloc (.cells #[.int .i64 k.k, .string k.s, .int .i64 k.n] 32) := ⟨_, rfl⟩
  have ho : Only (fun _ => False) w E := by rw [hE]; exact Only.alloc _ _ _
  have HO := Lib.hid ho
  have HCL := Lib.hid (closed_no (h.later ho))
  have hlk := (h.later ho).look_id hi
  rw [hx] at hlk
  simp only [Option.getD_none, Option.isSome_none, zE] at hlk
  have o2 : Only (fun _ => False) w (E.alloc (.cells #[.int .i64 0, .int .i64 0, .string ⟨#[]⟩, .int .i64 0, .int .i64 0] 60)) := ho.same (Only.alloc _ _ _)
  obtain ⟨c0, c1, c2, c3, c4⟩ := (h.later ho).cells
  obtain ⟨e0, e1, e2, e3, e4⟩ := (h.later o2).cells
  have hlen := (h.later o2).idm.len Try.underlying49
  rw [h.idl.size] at hlen
  have hge : (L.length : Int) ≥ 4096 := by omega
  generalize L.length = n at *
  clear h ho hx hn
  go_enter Try.func14, Try.ntmps14
  go_upto_region 1 with fail
  rw [← hE]
  clear hE
  go_wp2_with fail
  refine HCL.out.mono ?_
  rintro e w1 ⟨rfl, rfl⟩
  go_wp2_with fail
  go_ret
  exact ⟨rfl, HO.out.same (Only.alloc _ _ _)⟩
end
end Go.Proofs.Ythgjedcelcanbaa.idx
