/- Cells are taken where a row begins. -/
import Derived.Test.YtaplfibhhdngbaaPool14
namespace Go.Proofs.Ytaplfibhhdngbaa.pools
open Go.RowKit Go.Proofs.Ytaplfibhhdngbaa.own Go.Proofs.Ytaplfibhhdngbaa.trees Go.Proofs.Ytaplfibhhdngbaa.rows
variable {Sm S : Nat → Prop} {B b k sz : Nat} {so : Option Addr} {scap : Nat} {ao : Option Addr} {cap : Nat} {T : List Int} {f : Nat → Nat} {lim : Nat} {F : List Bool} {St : List Nat} {w w' : World} {o : Nat}
theorem grow_none (p : Nat) (c0 : w.cell? ⟨b, o, none⟩ = some (.int .i64 sz)) (hp : p ≤ sz) : Calls Try.prog 41 #[.pointer (some ⟨b, o, none⟩), .int .i64 p] w fun e w' => e = .returned (.tuple #[]) ∧ w = w' := by
  go_enter Try.func41, Try.ntmps41
  go_wp2_with fail
  refine bodyPost_ret (results_none rfl _ _ _) rfl ?_
  exact ⟨rfl, rfl⟩
theorem take_small (n : Int) (hn : n < 1) (h : PoolAt Sm S B b k sz so scap ao cap T f lim F St w) : Calls Try.prog 12 #[.pointer (some ⟨b, 0, none⟩), .int .i64 n] w fun e w' => e = .returned (.tuple #[.int .i64 0, .int .i64 1]) ∧ w = w' := by
  have HC := Lib.hid (closed_no h)
  clear h
  go_enter Try.func12, Try.ntmps12
  go_wp2_with fail
  refine HC.out.mono ?_
  rintro e w1 ⟨rfl, rfl⟩
  go_wp2_with fail
  go_ret2
  exact ⟨rfl, rfl⟩
/-- Where the last segment begins. -/
def lastOf (St : List Nat) : Nat := St.getD (St.length - 1) 0
set_option maxRecDepth 100000 in
theorem take_found (n p : Nat) (hn : 1 ≤ n) (hn1 : n ≤ 9223372036854775807) (h : PoolAt Sm S B b k sz so scap ao cap T f lim F St w) (hp1 : lastOf St ≤ p) (hp2 : n ≤ f p) (hp3 : ∀ q, lastOf St ≤ q → q < p → f q < n) :
    Calls Try.prog 12 #[.pointer (some ⟨b, 0, none⟩), .int .i64 n] w fun e w' => e = .returned (.tuple #[.int .i64 p, .int .i64 0]) ∧ ∃ T', PoolAt Sm S B b k sz so scap ao cap T' (cut f p n) lim (put F p false n) St w' ∧ Only S w w' := by
  have HC := Lib.hid (closed_no h)
  have HL := Lib.hid (last_seg h)
  have H := Lib.hid h
  have hcut := h.cutting hn hp2
  have hroom := h.room
  have hsz : 0 < sz := by omega
  have HR := Lib.hid (h.runsF hsz)
  have hone := h.one
  have hsg := h.segs
  have c2 := h.c2
  obtain ⟨g, rfl, _⟩ := h.start 0 0 h.first
  have cs := start_cell h.starts (St.length - 1) (by omega)
  change w.cell? _ = some (.int .i64 (lastOf St : Int)) at cs
  have HSh := Lib.hid (shorten_any p n hn h hp2)
  have hn2 : ¬ ((n : Int) < 1) := by omega
  have HF := Lib.hid (first_f (lastOf St) n (h.runsF hsz) hn hn1)
  have HU : Hid (∀ r, FirstF f (lastOf St) n r → r = (p : Int)) := Lib.hid (by
    rintro r (⟨rfl, hz⟩ | ⟨p', rfl, g1, g2, g3⟩)
    · have := hz p hp1; omega
    · rcases Nat.lt_trichotomy p p' with hl | he | hg
      · have := g3 p hp1 hl; omega
      · rw [he]
      · have := hp3 p' g1 hg; omega)
  have HQ1 : Hid (∀ N, Calls Try.prog 39 #[.pointer (some ⟨b, 0, none⟩)] (w.drewN N) fun e w' => e = .returned (.int .i64 ((St.length - 1 : Nat) : Int)) ∧ w' = w.drewN N) := Lib.hid (fun N => (last_seg (H.out.drewN N)).mono (fun _ _ hh => ⟨hh.1, hh.2.symm⟩))
  have HQ2 : Hid (∀ N, Calls Try.prog 38 #[.pointer (some ⟨b, 3, none⟩), .int .i64 (lastOf St), .int .i64 n] (w.drewN N) fun e w' => e = .returned (.int .i64 p) ∧ w' = w.drewN N) := Lib.hid (fun N => (first_f (lastOf St) n ((H.out.drewN N).runsF hsz) hn hn1).mono (by
    rintro e w' ⟨⟨r, rfl, hr⟩, e2⟩
    exact ⟨by rw [HU.out r hr], e2.symm⟩))
  have HSh2 : Hid (∀ N, Calls Try.prog 40 #[.pointer (some ⟨b, 0, none⟩), .int .i64 p, .int .i64 n] (w.drewN N) fun e w' => e = .returned (.tuple #[]) ∧ ∃ T', PoolAt Sm S B b k sz (some ⟨g, 0, none⟩) scap ao cap T' (cut f p n) lim (put F p false n) St w' ∧ Only S w w') := Lib.hid (fun N => (shorten_any p n hn (H.out.drewN N) hp2).mono (by
    rintro e w' ⟨rfl, T', hT, ho⟩
    exact ⟨rfl, T', hT, (Only.drewN S w N).same ho⟩))
  have hi1 : ((St.length - 1 : Nat) : Int) < (St.length : Int) := by omega
  have hpm : ((p : Int) == -1) = false := by simp
  clear h hcut hp1 hp2 hp3
  generalize hm : St.length - 1 = m at *
  generalize lastOf St = s0 at *
  go_enter Try.func12, Try.ntmps12
  go_wp2_with fail
  refine HC.out.mono ?_
  rintro e w1 ⟨rfl, rfl⟩
  go_wp2_with fail
  go_quiet (first | (go_at_call 39; exact Calls.quiet_of_same (HQ1.out _)) | (go_at_call 38; exact Calls.quiet_of_same (HQ2.out _)))
  go_wp2_with fail
  refine (HSh2.out _).mono ?_
  rintro e w2 ⟨rfl, T', hT, ho⟩
  go_wp2_with fail
  go_ret2
  exact ⟨rfl, T', hT, ho⟩
end Go.Proofs.Ytaplfibhhdngbaa.pools
