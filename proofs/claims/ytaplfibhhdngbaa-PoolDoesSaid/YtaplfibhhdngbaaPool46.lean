/- What is told of both: a cell that is there. -/
import Derived.Test.YtaplfibhhdngbaaPool45
namespace Go.Proofs.Ytaplfibhhdngbaa.pools
open Go.RowKit Go.Proofs.Ytaplfibhhdngbaa.own Go.Proofs.Ytaplfibhhdngbaa.trees Go.Proofs.Ytaplfibhhdngbaa.rows Go.Proofs.Ytaplfibhhdngbaa.frames
variable {S R : Nat → Prop} {B p x lim : Nat} {F : List Bool} {St : List Nat} {fo so : Option Addr} {fcap scap : Nat} {w w' : World}
set_option maxRecDepth 100000 in
set_option maxHeartbeats 16000000 in
theorem alike_in (a : Int) (hin : 0 ≤ a ∧ a < (F.length : Int)) (hp : Pool S B p lim F St w) (hr : RefAt R B x fo fcap so scap lim F St w) :
    Calls Try.prog 11 #[.pointer (some ⟨p, 0, none⟩), .pointer (some ⟨x, 0, none⟩), .int .i64 a] w fun e w' => e = .returned (.bool true) ∧ Only (fun _ => False) w w' := by
    have P := Lib.hid hp
    have X := Lib.hid hr
    have hlim := hr.facts.limit
    have hsg := hr.facts.segs
    have hlb := hp.leftB
    have HOd : Hid (Only (fun _ => False) w w.drew) := Lib.hid (Only.drew _ _)
    clear hp hr
    obtain ⟨a', rfl⟩ : ∃ m : Nat, a = m := ⟨a.toNat, by omega⟩
    obtain ⟨gf, hgf, hcell, _⟩ := X.out.cell a' (by omega)
    subst hgf
    have HC := Lib.hid hcell
    have hal : (a' : Int) < (F.length : Int) := by omega
    have ha0 : ((a' : Int) ≥ 0) := by omega
    have HFr : Hid (isFree F (a' : Int) = F.getD a' false) := Lib.hid (isFree_nat a')
    have HK : Hid (∀ w' : World, Only (fun _ => False) w w' → (w'.cell? ⟨x, 0, none⟩ = some (.slice (some ⟨gf, 0, none⟩) F.length fcap) ∧ w'.cell? ⟨x, 1, none⟩ = some (.slice so St.length scap) ∧ w'.cell? ⟨x, 2, none⟩ = some (.int .i64 lim) ∧ w'.cell? ⟨gf, a', none⟩ = some (.bool (F.getD a' false)))) := Lib.hid (fun w' ho =>
      ⟨(X.out.only ho).c0, (X.out.only ho).c1, (X.out.only ho).c2, (ho.cell (p := ⟨gf, a', none⟩) (X.out.free.head _ rfl).2.2 (fun e => e)).trans HC.out⟩)
    clear hcell hin
    generalize F.getD a' false = fv at *
    go_enter Try.func11, Try.ntmps11
    go_wp2_with fail
    simp only [List.append]
    go_region_held3 (fun w' => w'.cell? ⟨x, 0, none⟩ = some (.slice (some ⟨gf, 0, none⟩) F.length fcap) ∧ w'.cell? ⟨x, 1, none⟩ = some (.slice so St.length scap) ∧ w'.cell? ⟨x, 2, none⟩ = some (.int .i64 lim) ∧ w'.cell? ⟨gf, a', none⟩ = some (.bool fv))
      (first | exact HK.out _ HOq.out | exact HK.out _ HOp.out | exact HK.out _ HOo.out | exact HK.out _ HOn.out | exact HK.out _ HOm.out | exact HK.out _ HOl.out | exact HK.out _ HOd.out | go_keep)
      (first
        | (go_at_call 18; refine (top_p (P.out.only HOd.out)).mono ?_; rintro e wt ⟨rfl, rfl⟩)
        | (go_at_call 20; refine (limit_p (P.out.only HOd.out)).mono ?_; rintro e wt ⟨rfl, rfl⟩)
        | (go_at_call 22; refine (left_pl (P.out.only HOd.out)).mono ?_; rintro e wl ⟨rfl, Nl, hNl⟩; have HOl : Hid (Only (fun _ => False) w wl) := Lib.hid (by rw [hNl]; exact HOd.out.same (Only.drewN _ _ _)); clear hNl)
        | (go_at_call 34; refine (rleft_any (X.out.only HOl.out)).mono ?_; rintro e wm ⟨rfl, hom⟩; have HOm := Lib.hid (HOl.out.same hom); clear hom)
        | (go_at_call 13; refine (starts_p (P.out.only HOm.out)).mono ?_; rintro e wn ⟨r1, cp1, rfl, row1, hon⟩; have HOn := Lib.hid (HOm.out.same hon); have R1 := Lib.hid row1; clear hon row1)
        | (go_at_call 26; refine (sameInts_yes R1.out (X.out.only HOn.out).starts (by omega)).mono ?_; rintro e wo ⟨rfl, No, hNo⟩; have HOo : Hid (Only (fun _ => False) w wo) := Lib.hid (by rw [hNo]; exact HOn.out.same (Only.drewN _ _ _)); clear hNo)
        | (go_at_call 25; refine (segment_p _ (P.out.only HOo.out)).mono ?_; rintro e wp ⟨⟨s1, rfl, hs1⟩, Np, hNp⟩; have HOp : Hid (Only (fun _ => False) w wp) := Lib.hid (by rw [hNp]; exact HOo.out.same (Only.drewN _ _ _)); have HS1 := Lib.hid hs1; clear hNp hs1)
        | (go_at_call 35; refine (rsegment_any _ (X.out.only HOp.out)).mono ?_; rintro e wt ⟨⟨s2, rfl, hs2⟩, rfl⟩; obtain rfl := HS1.out.uniq hs2; clear hs2)
        | (go_at_call 19; refine (free_p _ (P.out.only HOp.out)).mono ?_; rintro e wq ⟨rfl, hoq⟩; rw [HFr.out]; have HOq := Lib.hid (HOp.out.same hoq); clear hoq))
    go_wp2_with fail
    have HO0 : Hid (Only (fun _ => False) w wq) := HOq
    generalize wq = w9 at *
    clear HOd HOl HOm HOn HOo HOp HOq R1 HK
    go_loopw [7] (fun v wr => ∃ t : Nat, v = .int .i64 ((t : Int) - 1) ∧ t ≤ St.length + 2 ∧ Hid (Only (fun _ => False) w wr)) (fun v _ => St.length + 2 - (intOf v + 1).toNat)
    case atStart => exact ⟨0, by rfl, by omega, HO0⟩
    case round =>
      obtain ⟨t, rfl, ht, HO⟩ := hrel
      obtain ⟨s, hs⟩ : ∃ s : Int, s = (t : Int) - 1 := ⟨_, rfl⟩
      rw [← hs]
      have HSe := Lib.hid hs
      have c1 := (X.out.only HO.out).c1
      have hs0 : -1 ≤ s := by omega
      have hs1 : s ≤ 4097 := by omega
      by_cases hl : s ≤ (St.length : Int)
      · have HL := Lib.hid hl
        clear hs
        go_wp2_with fail
        refine (runs_p s (P.out.only HO.out)).mono ?_
        rintro e w10 ⟨r5, cp5, rfl, row5, ho5⟩
        have HO10 := Lib.hid (HO.out.same ho5)
        have R5 := Lib.hid row5
        clear row5 ho5 c1
        go_wp2_with fail
        refine (rruns_p s (X.out.only HO10.out)).mono ?_
        rintro e w11 ⟨r6, cp6, rfl, row6, ho6⟩
        have HO11 := Lib.hid (HO10.out.same ho6)
        have R6 := Lib.hid row6
        have R51 := Lib.hid (R5.out.only ho6 (fun _ _ e => e))
        clear row6 ho6
        go_wp2_with fail
        refine (sameRuns_yes R51.out R6.out (runsI_len F St s X.out.facts.below (by omega))).mono ?_
        rintro e w12 ⟨rfl, N, hN⟩
        have HO12 : Hid (Only (fun _ => False) w w12) := Lib.hid (by rw [hN]; exact HO11.out.same (Only.drewN _ _ _))
        clear hN
        go_wp2_with fail
        go_roundw
        case rel => exact ⟨t + 1, by have := HSe.out; go_num, by have := HSe.out; have := HL.out; omega, HO12⟩
        case measure => have := HSe.out; have := HL.out; simp [intOf]; omega
      · clear hs
        go_wp2_with fail
        go_ret
        exact ⟨rfl, HO.out⟩
end Go.Proofs.Ytaplfibhhdngbaa.pools
