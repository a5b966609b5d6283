/- Tokens: the reference's comparison of two lists. -/
import Derived.Test.YtogccafnfpmgmaaDoorTokT
import Derived.Test.YtogccafnfpmgmaaDoorTokRC
import Derived.Deep.QuietTactic
namespace Go.Proofs.YtogccafnfpmgmaaDoor.toks
open Go.RowKit Go.Proofs.YtogccafnfpmgmaaDoor.own
set_option maxRecDepth 100000 in
set_option maxHeartbeats 4000000 in
theorem sameAll_any (l : List Tk) (b1 b2 : Nat) (ao bo : Option Addr) (ac bc : Nat) (w : World) (h1 : RowOf encT 5 30 b1 ao ac l w) (h2 : RowOf encT 5 30 b2 bo bc l w) (hn : l.length ≤ 65536) : Calls Tryd.prog 10 #[.slice ao l.length ac, .slice bo l.length bc] w fun e w' => e = .returned (.bool true) ∧ Only (fun _ => False) w w' := by
  have HR : Hid (∀ W, Only (fun _ => False) w W → RowOf encT 5 30 b1 ao ac l W ∧ RowOf encT 5 30 b2 bo bc l W) := Lib.hid (fun W ho => ⟨h1.only ho (fun _ _ e => e), h2.only ho (fun _ _ e => e)⟩)
  have HO0 : Hid (Only (fun _ => False) w w) := Lib.hid (Only.refl _ _)
  clear h1 h2
  go_enter Tryd.func10, Tryd.ntmps10
  go_wp2_with fail
  go_loopw [5] (fun i wr => ∃ j : Nat, i = .int .i64 j ∧ j ≤ l.length ∧ Hid (Only (fun _ => False) w wr)) (fun i _ => l.length - (intOf i).toNat)
  case atStart => exact ⟨0, rfl, by omega, HO0⟩
  case round =>
    obtain ⟨j, rfl, hj, hI⟩ := hrel
    clear HO0
    by_cases hlt : j < l.length
    · obtain ⟨x, hx⟩ : ∃ x, l[j]? = some x := ⟨_, List.getElem?_eq_getElem hlt⟩
      obtain ⟨g1, rfl, hg1, hl1, c0, c1, c2, c3, c4⟩ := RowOf.tk (HR.out wr hI.out).1 hx
      obtain ⟨g2, rfl, hg2, hl2, d0, d1, d2, d3, d4⟩ := RowOf.tk (HR.out wr hI.out).2 hx
      have hq : ∀ q, (binOp .neq 30 (.agg #[.int .i64 x.kd, .string (bstr x.s), .int .i64 x.n, .int .i64 x.at_, .bool x.lay]) (.agg #[.int .i64 x.kd, .string (bstr x.s), .int .i64 x.n, .int .i64 x.at_, .bool x.lay])).run Tryd.prog (wr.drewN q) = .ok (.bool false) (wr.drewN q) := fun q => neqT x (wr.drewN q)
      have h0 : (0 : Int) ≤ (j : Int) := by omega
      have h1 : (j : Int) < (l.length : Int) := by omega
      clear hx hg1 hg2 hl1 hl2
      go_wp2_with fail
      go_quiet (fail)
      go_wp2_with fail
      go_roundw
      case rel => exact ⟨j + 1, by go_num, by omega, Lib.hid (hI.out.same (Only.drewN _ _ _))⟩
      case measure => simp [intOf]; omega
    · obtain rfl : j = l.length := by omega
      go_wp2_with fail
      go_ret
      exact ⟨rfl, hI.out⟩
end Go.Proofs.YtogccafnfpmgmaaDoor.toks
