
/- Selection by keys: New, Add, Head, Next, Len, All, Drop of none, as of one table; a key's box beside a table. -/
import Derived.Test.YthgjedcelcanbaaIdx20
namespace Go.Proofs.Ythgjedcelcanbaa.idx
set_option maxRecDepth 100000
open Go.RowKit Go.Proofs.Ythgjedcelcanbaa.own Go.Lib Go.Maps Go.WideMaps
theorem new_tab (w : World) : Calls Try.prog 6 #[] w fun e w' => e = .returned (.pointer (some ⟨w.heap.size + 2, 0, none⟩)) ∧ TabB w.heap.size (w.heap.size + 2) 0 [] (-1) 0 w' ∧ Only (fun _ => False) w w' := by
  refine (new_any w).mono ?_
  rintro e w1 ⟨h1, h2, h3⟩
  exact ⟨h1, ⟨_, _, _, _, _, _, _, _, _, h2, ⟨by omega, by omega, by omega, (fun k hk => by obtain ⟨g, hg, _⟩ := hk; cases hg), (fun p hp => by cases hp)⟩⟩, h3⟩
theorem TabB.later {B b N : Nat} {L : List En} {lo hi : Int} {w w' : World} (h : TabB B b N L lo hi w) (o : Only (fun _ => False) w w') : TabB B b N L lo hi w' := by
  obtain ⟨mr, mi, ks, ao, cap, nr, ni, Dr, Di, h1, h2⟩ := h
  exact ⟨mr, mi, ks, ao, cap, nr, ni, Dr, Di, h1.later o, h2⟩
theorem add_tab {B b N : Nat} {L : List En} {lo hi : Int} {w : World} (h : TabB B b N L lo hi w) (hN : N + 1 ≤ 1000000) (i : Int) (hi' : Fit i) (k : Ky) (hko : k.Ok) (f : Bool) (hx : idF i L = none) (hn : L.length < 4096) :
    Calls Try.prog 14 #[.pointer (some ⟨b, 0, none⟩), .int .i64 i, kyV k, .bool f] w fun e w' => e = .returned (.int .i64 0) ∧ TabB B b (N + 1) (insF f (newE i k f lo hi) L) (if f = true then lo - 1 else lo) (if f = true then hi else hi + 1) w' ∧ Only (Ixy B w) w w' := by
  obtain ⟨mr, mi, ks, ao, cap, nr, ni, Dr, Di, h1, h2⟩ := h
  exact add_new (newE i k f lo hi) _ _ h1 h2 hN i hi' k hko f hx hn rfl rfl rfl rfl rfl
theorem head_tab {B b N : Nat} {L : List En} {lo hi : Int} {w : World} (h : TabB B b N L lo hi w) (k : Ky) (hko : k.Ok) :
    Calls Try.prog 15 #[.pointer (some ⟨b, 0, none⟩), kyV k] w fun e w' => e = .returned (.tuple #[.int .i64 ((firstF lo k L).getD zE).id, .bool (firstF lo k L).isSome]) ∧ Only (fun _ => False) w w' := by
  obtain ⟨mr, mi, ks, ao, cap, nr, ni, Dr, Di, h1, h2⟩ := h
  exact head_any h1 k hko
theorem next_tab {B b N : Nat} {L : List En} {lo hi : Int} {w : World} (h : TabB B b N L lo hi w) (i : Int) (hi' : Fit i) (k : Ky) (hko : k.Ok) :
    Calls Try.prog 16 #[.pointer (some ⟨b, 0, none⟩), .int .i64 i, kyV k] w fun e w' => e = .returned (.tuple #[.int .i64 ((nextF i k L).getD zE).id, .bool (nextF i k L).isSome]) ∧ Only (fun _ => False) w w' := by
  obtain ⟨mr, mi, ks, ao, cap, nr, ni, Dr, Di, h1, h2⟩ := h
  exact next_any h1 i hi' k hko
theorem len_tab {B b N : Nat} {L : List En} {lo hi : Int} {w : World} (h : TabB B b N L lo hi w) : Calls Try.prog 9 #[.pointer (some ⟨b, 0, none⟩)] w fun e w' => e = .returned (.int .i64 L.length) ∧ w' = w := by
  obtain ⟨mr, mi, ks, ao, cap, nr, ni, Dr, Di, h1, h2⟩ := h
  exact len_any h1
theorem all_tab {B b N : Nat} {L : List En} {lo hi : Int} {w : World} (h : TabB B b N L lo hi w) (k : Ky) (hko : k.Ok) :
    Calls Try.prog 11 #[.pointer (some ⟨b, 0, none⟩), kyV k] w fun e w' => ∃ a c, e = .returned (.slice a (metF k L).length c) ∧ RowN w.heap.size a c ((metF k L).map (·.id)) w' ∧ Only (fun _ => False) w w' := by
  obtain ⟨mr, mi, ks, ao, cap, nr, ni, Dr, Di, h1, h2⟩ := h
  exact all_any h1 k hko
set_option maxHeartbeats 8000000 in
theorem drop_none {b mr mi N : Nat} {L : List En} {lo hi : Int} {ks : Ks} {ao : Option Addr} {cap nr ni : Nat} {Dr : D2} {Di : D1} {w : World} (h : TabI b mr mi N L lo hi ks ao cap nr ni Dr Di w) (i : Int) (hi' : Fit i) (hx : idF i L = none) :
    Calls Try.prog 13 #[.pointer (some ⟨b, 0, none⟩), .int .i64 i] w fun e w' => e = .returned (.int .i64 4) ∧ Only (fun _ => False) w w' := by
  have HCL := Lib.hid (closed_no h)
  obtain ⟨c0, c1, c2, c3, c4⟩ := h.cells
  have hlk := h.look_id hi'
  rw [hx] at hlk
  simp only [Option.getD_none, Option.isSome_none, zE] at hlk
  clear h hx
  go_enter Try.func13, Try.ntmps13
  go_wp2_with fail
  refine HCL.out.mono ?_
  rintro e w1 ⟨rfl, rfl⟩
  go_wp2_with fail
  go_ret
  exact ⟨rfl, Only.alloc _ _ _⟩
theorem drop_no {B b N : Nat} {L : List En} {lo hi : Int} {w : World} (h : TabB B b N L lo hi w) (i : Int) (hi' : Fit i) (hx : idF i L = none) :
    Calls Try.prog 13 #[.pointer (some ⟨b, 0, none⟩), .int .i64 i] w fun e w' => e = .returned (.int .i64 4) ∧ Only (fun _ => False) w w' := by
  obtain ⟨mr, mi, ks, ao, cap, nr, ni, Dr, Di, h1, h2⟩ := h
  exact drop_none h1 i hi' hx
/-- A key's box is none of a table's blocks. -/
theorem Three.ixy {B q : Nat} {k : Ky} {w w' : World} (h : Three q k w) (o : Only (Ixy B w) w w') : Three q k w' :=
  h.only o (fun e => by
    unfold Three at h
    rcases e.2 with ⟨cs, e⟩ | ⟨cs, e⟩ | ⟨es, c, e⟩
    · rw [h] at e
      injection e with e
      injection e with _ e
      exact absurd e (by decide)
    · rw [h] at e
      injection e with e
      injection e with _ e
      exact absurd e (by decide)
    · rw [h] at e
      cases e)
end Go.Proofs.Ythgjedcelcanbaa.idx
