/- Order: the reference's Same of two lists that are alike. -/
import Derived.Test.YtgedhmnkhoajbaaOrder8
namespace Go.Proofs.Ytgedhmnkhoajbaa.orders
open Go.RowKit Go.Proofs.Ytgedhmnkhoajbaa.own Go.Maps Go.Proofs.Ytgedhmnkhoajbaa.terms
set_option maxRecDepth 100000 in
set_option maxHeartbeats 2000000 in
theorem same_eq (l : List T) (w : World) (ao bo : Option Addr) (ac bc : Nat) (ha : Lies w ao l) (hb : Lies w bo l) (hn : l.length ≤ 1000000) :
    Calls Try.prog 16 #[.slice ao l.length ac, .slice bo l.length bc] w fun e w' => e = .returned (.bool true) ∧ Only (fun _ => False) w w' := by
  have HA := Lib.hid ha
  have HB := Lib.hid hb
  clear ha hb
  go_enter Try.func16, Try.ntmps16
  go_wp2_with fail
  go_loopw [5] (fun i wr => ∃ j : Nat, i = .int .i64 j ∧ j ≤ l.length ∧ Hid (Only (fun _ => False) w wr)) (fun i _ => l.length - (intOf i).toNat)
  case atStart => exact ⟨0, rfl, by omega, Lib.hid (Only.refl _ _)⟩
  case round =>
    obtain ⟨j, rfl, hj, hR⟩ := hrel
    by_cases hlt : j < l.length
    · obtain ⟨x, hx⟩ : ∃ x, l[j]? = some x := ⟨_, List.getElem?_eq_getElem hlt⟩
      obtain ⟨b, off, ro, rc, rfl, hbl, c0, c1, c2, c3, hs, hsub⟩ := (HA.out.later hR.out).at hx
      obtain ⟨b', off', ro', rc', rfl, hbl', d0, d1, d2, d3, hs', hsub'⟩ := (HB.out.later hR.out).at hx
      have HX := Lib.hid (And.intro hs (And.intro hsub hsub'))
      have HK : Hid (∀ w', Only (fun _ => False) wr w' → w'.cell? ⟨b, off + j * 4, none⟩ = some (.int .i64 x.k) ∧ w'.cell? ⟨b, off + j * 4 + 1, none⟩ = some (.int .i64 x.n) ∧ w'.cell? ⟨b, off + j * 4 + 2, none⟩ = some (.string x.s) ∧ w'.cell? ⟨b, off + j * 4 + 3, none⟩ = some (.slice ro x.l.length rc) ∧ w'.cell? ⟨b', off' + j * 4, none⟩ = some (.int .i64 x.k) ∧ w'.cell? ⟨b', off' + j * 4 + 1, none⟩ = some (.int .i64 x.n) ∧ w'.cell? ⟨b', off' + j * 4 + 2, none⟩ = some (.string x.s) ∧ w'.cell? ⟨b', off' + j * 4 + 3, none⟩ = some (.slice ro' x.l.length rc')) := Lib.hid (fun w' ho2 =>
        ⟨(ho2.cell (p := ⟨b, off + j * 4, none⟩) hbl (fun e => e)).trans c0, (ho2.cell (p := ⟨b, off + j * 4 + 1, none⟩) hbl (fun e => e)).trans c1, (ho2.cell (p := ⟨b, off + j * 4 + 2, none⟩) hbl (fun e => e)).trans c2, (ho2.cell (p := ⟨b, off + j * 4 + 3, none⟩) hbl (fun e => e)).trans c3, (ho2.cell (p := ⟨b', off' + j * 4, none⟩) hbl' (fun e => e)).trans d0, (ho2.cell (p := ⟨b', off' + j * 4 + 1, none⟩) hbl' (fun e => e)).trans d1, (ho2.cell (p := ⟨b', off' + j * 4 + 2, none⟩) hbl' (fun e => e)).trans d2, (ho2.cell (p := ⟨b', off' + j * 4 + 3, none⟩) hbl' (fun e => e)).trans d3⟩)
      have HO : Hid (Only (fun _ => False) wr wr.drew) := Lib.hid (Only.drew _ _)
      have i0 : (0 : Int) ≤ (j : Int) := by omega
      have i1 : (j : Int) < (l.length : Int) := by omega
      clear hx hs hsub hs' hsub' c0 c1 c2 c3 d0 d1 d2 d3
      go_wp2_with fail
      go_region_held3 (fun w' => w'.cell? ⟨b, off + j * 4, none⟩ = some (.int .i64 x.k) ∧ w'.cell? ⟨b, off + j * 4 + 1, none⟩ = some (.int .i64 x.n) ∧ w'.cell? ⟨b, off + j * 4 + 2, none⟩ = some (.string x.s) ∧ w'.cell? ⟨b, off + j * 4 + 3, none⟩ = some (.slice ro x.l.length rc) ∧ w'.cell? ⟨b', off' + j * 4, none⟩ = some (.int .i64 x.k) ∧ w'.cell? ⟨b', off' + j * 4 + 1, none⟩ = some (.int .i64 x.n) ∧ w'.cell? ⟨b', off' + j * 4 + 2, none⟩ = some (.string x.s) ∧ w'.cell? ⟨b', off' + j * 4 + 3, none⟩ = some (.slice ro' x.l.length rc')) (first | exact HK.out _ HO.out | go_keep) (first
        | (go_at_call 21; refine (exact_any x x _ ro ro' rc rc' (HX.out.2.1.later HO.out) HX.out.1 (HX.out.2.2.later HO.out) HX.out.1).mono ?_; rintro e wx ⟨rfl, ho⟩; rw [T.eqb_refl]; have HO := Lib.hid (HO.out.same ho); clear ho))
      have HR2 := Lib.hid (hR.out.same HO.out)
      go_wp2_with fail
      go_roundw
      case rel => exact ⟨j + 1, by go_num, by omega, HR2⟩
      case measure => simp [intOf]; omega
    · obtain rfl : j = l.length := by omega
      go_wp2_with fail
      go_ret
      exact ⟨rfl, hR.out⟩
/-- The terms that lives speaks of. -/
abbrev oI : T := .mk 2 2 ⟨#[]⟩ []
abbrev oA : T := .mk 3 0 ⟨#[97]⟩ []
abbrev i1 : T := .mk 2 1 ⟨#[]⟩ []
abbrev i0 : T := .mk 2 0 ⟨#[]⟩ []
abbrev oC : T := .mk 4 0 ⟨#[102]⟩ [i1]
abbrev oD : T := .mk 4 0 ⟨#[102]⟩ [i0, i0]
abbrev oV (n : Int) : T := .mk 1 n ⟨#[]⟩ []
theorem few_srt4 : srt [oD, oC, oA, oI] = #[3, 2, 1, 0] := by kernel_rfl
theorem few_srt3 : srt [oA, oI, oA] = #[1, 0, 2] := by kernel_rfl
end Go.Proofs.Ytgedhmnkhoajbaa.orders
