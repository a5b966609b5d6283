/- Order: what lives asks of each call. -/
import Derived.Test.YtgedhmnkhoajbaaOrder9
import Derived.Test.YtgedhmnkhoajbaaTermE
namespace Go.Proofs.Ytgedhmnkhoajbaa.orders
open Go.RowKit Go.Proofs.Ytgedhmnkhoajbaa.own Go.Maps Go.Proofs.Ytgedhmnkhoajbaa.terms
theorem few_4 : Few [oD, oC, oA, oI] := ⟨by decide, fun x hx => by
  simp only [List.mem_cons, List.not_mem_nil, or_false] at hx
  rcases hx with rfl | rfl | rfl | rfl <;> exact ⟨by kernel_rfl, by decide +kernel, by decide +kernel⟩, fun i h1 h2 => by
  have h3 : i < 4 := h2
  rcases (show i = 1 ∨ i = 2 ∨ i = 3 by omega) with rfl | rfl | rfl <;> (rw [few_srt4]; decide +kernel)⟩
theorem few_3 : Few [oA, oI, oA] := ⟨by decide, fun x hx => by
  simp only [List.mem_cons, List.not_mem_nil, or_false] at hx
  rcases hx with rfl | rfl | rfl <;> exact ⟨by kernel_rfl, by decide +kernel, by decide +kernel⟩, fun i h1 h2 => by
  have h3 : i < 3 := h2
  rcases (show i = 1 ∨ i = 2 by omega) with rfl | rfl <;> (rw [few_srt3]; decide +kernel)⟩
theorem sane_I : oI.Sane := ⟨⟨by decide +kernel, by decide +kernel⟩, ⟨by decide +kernel, by decide +kernel⟩, by decide +kernel, by decide +kernel⟩
theorem sane_A : oA.Sane := ⟨⟨by decide +kernel, by decide +kernel⟩, ⟨by decide +kernel, by decide +kernel⟩, by decide +kernel, by decide +kernel⟩
theorem sane_C : oC.Sane := ⟨⟨by decide +kernel, by decide +kernel⟩, ⟨by decide +kernel, by decide +kernel⟩, by decide +kernel, by decide +kernel⟩
theorem sane_D : oD.Sane := ⟨⟨by decide +kernel, by decide +kernel⟩, ⟨by decide +kernel, by decide +kernel⟩, by decide +kernel, by decide +kernel⟩
theorem sane_i0 : i0.Sane := ⟨⟨by decide +kernel, by decide +kernel⟩, ⟨by decide +kernel, by decide +kernel⟩, by decide +kernel, by decide +kernel⟩
theorem sane_i1 : i1.Sane := ⟨⟨by decide +kernel, by decide +kernel⟩, ⟨by decide +kernel, by decide +kernel⟩, by decide +kernel, by decide +kernel⟩
theorem sane_V1 : (oV 1).Sane := ⟨⟨by decide +kernel, by decide +kernel⟩, ⟨by decide +kernel, by decide +kernel⟩, by decide +kernel, by decide +kernel⟩
theorem sane_V2 : (oV 2).Sane := ⟨⟨by decide +kernel, by decide +kernel⟩, ⟨by decide +kernel, by decide +kernel⟩, by decide +kernel, by decide +kernel⟩
theorem o_int (n : Int) (w : World) : Calls Try.prog 23 #[.int .i64 n] w fun e w' => e = .returned (.agg #[.int .i64 2, .int .i64 n, .string ⟨#[]⟩, .slice none 0 0]) ∧ Only (fun _ => False) w w' := rint_any n w
theorem o_var (n : Int) (w : World) : Calls Try.prog 26 #[.int .i64 n] w fun e w' => e = .returned (.agg #[.int .i64 1, .int .i64 n, .string ⟨#[]⟩, .slice none 0 0]) ∧ Only (fun _ => False) w w' := rvar_any n w
theorem o_atom (s : ByteArray) (w : World) : Calls Try.prog 24 #[.string s] w fun e w' => e = .returned (.agg #[.int .i64 3, .int .i64 0, .string s, .slice none 0 0]) ∧ Only (fun _ => False) w w' := ratom_any s w
abbrev cI1 : Array Value := #[.int .i64 2, .int .i64 1, .string ⟨#[]⟩, .slice none 0 0]
abbrev cI0 : Array Value := #[.int .i64 2, .int .i64 0, .string ⟨#[]⟩, .slice none 0 0, .int .i64 2, .int .i64 0, .string ⟨#[]⟩, .slice none 0 0]
theorem o_comp1 (W : World) (b : Nat) (h : W.heap[b]? = some (.cells cI1 24 (0, 0))) : Calls Try.prog 25 #[.string ⟨#[102]⟩, .slice (some ⟨b, 0, none⟩) 1 1] W fun e w' => ∃ a c, e = .returned (.agg #[.int .i64 4, .int .i64 0, .string ⟨#[102]⟩, .slice a 1 c]) ∧ Lies w' a [i1] ∧ Only (fun _ => False) W w' := by
  refine (rComp_any ⟨#[102]⟩ [i1] W (some ⟨b, 0, none⟩) 1 (by decide +kernel) (Row.leaves (ts := [i1]) h rfl (fun t ht => by rw [List.mem_singleton.1 ht]; exact ⟨sane_i1, rfl⟩)) (by decide)).mono ?_
  rintro e w' ⟨a, c, rfl, h1, _, h3⟩
  exact ⟨a, c, rfl, h1, h3⟩
theorem o_comp2 (W : World) (b : Nat) (h : W.heap[b]? = some (.cells cI0 24 (0, 0))) : Calls Try.prog 25 #[.string ⟨#[102]⟩, .slice (some ⟨b, 0, none⟩) 2 2] W fun e w' => ∃ a c, e = .returned (.agg #[.int .i64 4, .int .i64 0, .string ⟨#[102]⟩, .slice a 2 c]) ∧ Lies w' a [i0, i0] ∧ Only (fun _ => False) W w' := by
  refine (rComp_any ⟨#[102]⟩ [i0, i0] W (some ⟨b, 0, none⟩) 2 (by decide +kernel) (Row.leaves (ts := [i0, i0]) h rfl (fun t ht => by
    simp only [List.mem_cons, List.not_mem_nil, or_false, or_self] at ht
    subst ht
    exact ⟨sane_i0, rfl⟩)) (by decide)).mono ?_
  rintro e w' ⟨a, c, rfl, h1, _, h3⟩
  exact ⟨a, c, rfl, h1, h3⟩
theorem o_cmp (W : World) : Calls Try.prog 10 #[.agg #[.int .i64 2, .int .i64 2, .string ⟨#[]⟩, .slice none 0 0], .agg #[.int .i64 3, .int .i64 0, .string ⟨#[97]⟩, .slice none 0 0]] W fun e w' => e = .returned (.tuple #[.int .i64 (-1), .int .i64 0]) ∧ Only (fun _ => False) W w' := by
  refine (Compare_any oI oA W none none 0 0 (Row.nil _ _ none) sane_I (Row.nil _ _ none) sane_A (by decide +kernel) (by decide +kernel)).mono ?_
  rintro e w' ⟨⟨n, c, rfl, h⟩, ho⟩
  obtain ⟨rfl, rfl⟩ := h.2.1 ⟨⟨by kernel_rfl, by decide +kernel, by decide +kernel⟩, ⟨by kernel_rfl, by decide +kernel, by decide +kernel⟩⟩ (by kernel_rfl)
  exact ⟨by rw [show (meetF oI oA).1 = -1 by kernel_rfl], ho⟩
theorem o_cmpV (W : World) : Calls Try.prog 10 #[.agg #[.int .i64 1, .int .i64 1, .string ⟨#[]⟩, .slice none 0 0], .agg #[.int .i64 1, .int .i64 2, .string ⟨#[]⟩, .slice none 0 0]] W fun e w' => e = .returned (.tuple #[.int .i64 0, .int .i64 70]) ∧ Only (fun _ => False) W w' := by
  refine (Compare_any (oV 1) (oV 2) W none none 0 0 (Row.nil _ _ none) sane_V1 (Row.nil _ _ none) sane_V2 (by decide +kernel) (by decide +kernel)).mono ?_
  rintro e w' ⟨⟨n, c, rfl, h⟩, ho⟩
  obtain ⟨rfl, rfl⟩ := h.1 ⟨⟨by kernel_rfl, by decide +kernel, by decide +kernel⟩, ⟨by kernel_rfl, by decide +kernel, by decide +kernel⟩⟩ (by kernel_rfl)
  exact ⟨rfl, ho⟩
abbrev c4 (a3 a4 : Option Addr) (k3 k4 : Nat) : Array Value := #[.int .i64 4, .int .i64 0, .string ⟨#[102]⟩, .slice a4 2 k4, .int .i64 4, .int .i64 0, .string ⟨#[102]⟩, .slice a3 1 k3, .int .i64 3, .int .i64 0, .string ⟨#[97]⟩, .slice none 0 0, .int .i64 2, .int .i64 2, .string ⟨#[]⟩, .slice none 0 0]
abbrev r4 (a3 a4 : Option Addr) (k3 k4 : Nat) : Array Value := #[.int .i64 2, .int .i64 2, .string ⟨#[]⟩, .slice none 0 0, .int .i64 3, .int .i64 0, .string ⟨#[97]⟩, .slice none 0 0, .int .i64 4, .int .i64 0, .string ⟨#[102]⟩, .slice a3 1 k3, .int .i64 4, .int .i64 0, .string ⟨#[102]⟩, .slice a4 2 k4]
abbrev c3 : Array Value := #[.int .i64 3, .int .i64 0, .string ⟨#[97]⟩, .slice none 0 0, .int .i64 2, .int .i64 2, .string ⟨#[]⟩, .slice none 0 0, .int .i64 3, .int .i64 0, .string ⟨#[97]⟩, .slice none 0 0]
theorem o_row3 {W : World} {b : Nat} (h : W.heap[b]? = some (.cells c3 24 (0, 0))) : Lies W (some ⟨b, 0, none⟩) [oA, oI, oA] := Row.leaves (ts := [oA, oI, oA]) h rfl (fun t ht => by
    simp only [List.mem_cons, List.not_mem_nil, or_false] at ht
    rcases ht with rfl | rfl | rfl
    · exact ⟨sane_A, rfl⟩
    · exact ⟨sane_I, rfl⟩
    · exact ⟨sane_A, rfl⟩)
theorem o_row4 {W : World} {b : Nat} {a3 a4 : Option Addr} {k3 k4 : Nat} (h : W.heap[b]? = some (.cells (c4 a3 a4 k3 k4) 24 (0, 0))) (h3 : Lies W a3 [i1]) (h4 : Lies W a4 [i0, i0]) : Lies W (some ⟨b, 0, none⟩) [oD, oC, oA, oI] := by
  refine Row.ofBlock (its := [⟨oD, a4, k4⟩, ⟨oC, a3, k3⟩, ⟨oA, none, 0⟩, ⟨oI, none, 0⟩]) h rfl (Array.getElem?_eq_some_iff.1 h).1 (fun i x hx => ?_)
  match i, hx with
  | 0, hx => cases hx; exact ⟨sane_D, h4⟩
  | 1, hx => cases hx; exact ⟨sane_C, h3⟩
  | 2, hx => cases hx; exact ⟨sane_A, Row.nil _ _ none⟩
  | 3, hx => cases hx; exact ⟨sane_I, Row.nil _ _ none⟩
theorem o_row4r {W : World} {b : Nat} {a3 a4 : Option Addr} {k3 k4 : Nat} (h : W.heap[b]? = some (.cells (r4 a3 a4 k3 k4) 24 (0, 0))) (h3 : Lies W a3 [i1]) (h4 : Lies W a4 [i0, i0]) : Lies W (some ⟨b, 0, none⟩) [oI, oA, oC, oD] := by
  refine Row.ofBlock (its := [⟨oI, none, 0⟩, ⟨oA, none, 0⟩, ⟨oC, a3, k3⟩, ⟨oD, a4, k4⟩]) h rfl (Array.getElem?_eq_some_iff.1 h).1 (fun i x hx => ?_)
  match i, hx with
  | 0, hx => cases hx; exact ⟨sane_I, Row.nil _ _ none⟩
  | 1, hx => cases hx; exact ⟨sane_A, Row.nil _ _ none⟩
  | 2, hx => cases hx; exact ⟨sane_C, h3⟩
  | 3, hx => cases hx; exact ⟨sane_D, h4⟩
theorem o_sort {W : World} {b : Nat} {a3 a4 : Option Addr} {k3 k4 : Nat} (h : W.heap[b]? = some (.cells (c4 a3 a4 k3 k4) 24 (0, 0))) (h3 : Lies W a3 [i1]) (h4 : Lies W a4 [i0, i0]) : Calls Try.prog 13 #[.slice (some ⟨b, 0, none⟩) 4 4] W fun e w' => ∃ g cap, e = .returned (.tuple #[.slice (some ⟨g, 0, none⟩) 4 cap, .int .i64 0]) ∧ Lies w' (some ⟨g, 0, none⟩) [oI, oA, oC, oD] ∧ Only (fun _ => False) W w' := by
  have h1 := Sort_few [oD, oC, oA, oI] W (some ⟨b, 0, none⟩) 4 (o_row4 h h3 h4) few_4
  rw [few_srt4] at h1
  exact h1
theorem o_merge {W : World} {b : Nat} (h : W.heap[b]? = some (.cells c3 24 (0, 0))) : Calls Try.prog 14 #[.slice (some ⟨b, 0, none⟩) 3 3] W fun e w' => ∃ g cap, e = .returned (.tuple #[.slice (some ⟨g, 0, none⟩) 2 cap, .int .i64 0]) ∧ Only (fun _ => False) W w' :=
  Merge_three [oA, oI, oA] W (some ⟨b, 0, none⟩) 3 (o_row3 h) few_3 rfl 1 0 2 few_srt3 (by kernel_rfl) (by kernel_rfl)
theorem o_least {W : World} {b : Nat} (h : W.heap[b]? = some (.cells c3 24 (0, 0))) : Calls Try.prog 15 #[.slice (some ⟨b, 0, none⟩) 3 3] W fun e w' => e = .returned (.tuple #[.int .i64 1, .int .i64 0]) ∧ Only (fun _ => False) W w' :=
  Least_few [oA, oI, oA] W (some ⟨b, 0, none⟩) 3 (o_row3 h) few_3 1 (by rw [few_srt3]; rfl) (by decide)
theorem o_same {W : World} {g b cap : Nat} {a3 a4 : Option Addr} {k3 k4 : Nat} (hg : Lies W (some ⟨g, 0, none⟩) [oI, oA, oC, oD]) (h : W.heap[b]? = some (.cells (r4 a3 a4 k3 k4) 24 (0, 0))) (h3 : Lies W a3 [i1]) (h4 : Lies W a4 [i0, i0]) : Calls Try.prog 16 #[.slice (some ⟨g, 0, none⟩) 4 cap, .slice (some ⟨b, 0, none⟩) 4 4] W fun e w' => e = .returned (.bool true) ∧ Only (fun _ => False) W w' :=
  same_eq [oI, oA, oC, oD] W (some ⟨g, 0, none⟩) (some ⟨b, 0, none⟩) cap 4 hg (o_row4r h h3 h4) (by decide)
end Go.Proofs.Ytgedhmnkhoajbaa.orders
