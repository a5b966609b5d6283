/- Terms: what must come of every program: the terms. -/
import Derived.Test.YtdpbbcjlbnangaaTerm46
import Derived.Test.YtdpbbcjlbnangaaTerm42
import Derived.Test.YtdpbbcjlbnangaaTermE
import Derived.Test.YtdpbbcjlbnangaaTermD
namespace Go.Proofs.Ytdpbbcjlbnangaa.terms
open Go.RowKit Go.Proofs.Ytdpbbcjlbnangaa.own Go.Maps
abbrev vT (n : Int) : T := .mk 1 n ⟨#[]⟩ []
abbrev iT (n : Int) : T := .mk 2 n ⟨#[]⟩ []
abbrev aT (s : ByteArray) : T := .mk 3 0 s []
def sF : ByteArray := ⟨#[102]⟩
def sA : ByteArray := ⟨#[97]⟩
def sN : ByteArray := ⟨#[91, 93]⟩
def tC : T := .mk 4 0 sF [vT 7, vT 3, vT 7]
def uC : T := .mk 4 0 sF [vT 0, vT 1, vT 0]
def vC : T := .mk 4 0 sF [iT 5, vT 1, iT 5]
def lC : T := listF [iT 1, aT sA] (aT sN)
theorem comp_t : compF sF [vT 7, vT 3, vT 7] = tC := by rfl
theorem comp_u : compF sF [vT 0, vT 1, vT 0] = uC := by rfl
theorem comp_v : compF sF [iT 5, vT 1, iT 5] = vC := by rfl
theorem ren_t : renF tC = (uC, [7, 3]) := by rfl
theorem ren_u : renF uC = (uC, [0, 1]) := by rfl
theorem vars_t : varsF tC = [7, 3] := by rfl
theorem rep_u : (repF [iT 5] uC).1 = vC := by rfl
theorem rep_u2 : 0 ≤ (repF [iT 5] uC).2 := by decide
theorem items_l : itemsF lC = ([iT 1, aT sA], aT sN) := by kernel_rfl
theorem ok_t : tC.Ok := ⟨by kernel_rfl, by decide +kernel, by decide +kernel⟩
theorem ok_u : uC.Ok := ⟨by kernel_rfl, by decide +kernel, by decide +kernel⟩
theorem ok_v : vC.Ok := ⟨by kernel_rfl, by decide +kernel, by decide +kernel⟩
theorem ok_l : lC.Ok := ⟨by kernel_rfl, by decide +kernel, by decide +kernel⟩
theorem ok_5 : (iT 5).Ok := ⟨by kernel_rfl, by decide +kernel, by decide +kernel⟩
theorem size_t : tC.size = 4 := by rfl
theorem depth_t : tC.depth = 2 := by rfl
theorem ground_t : groundF tC = false := by rfl
theorem eq_uu : uC.eqb uC = true := T.eqb_refl _
theorem eq_tu : tC.eqb uC = false := by kernel_rfl
theorem eq_tt : tC.eqb tC = true := T.eqb_refl _
theorem look_0 : ((default : T).lookF 1 4096).1 = 60 := by decide
theorem sane_leaf (k n : Int) (s : ByteArray) (hk : Fits k) (hn : Fits n) (hs : s.size ≤ maxLen) : (T.mk k n s []).Sane := ⟨hk, hn, hs, Nat.zero_le _⟩
end Go.Proofs.Ytdpbbcjlbnangaa.terms
