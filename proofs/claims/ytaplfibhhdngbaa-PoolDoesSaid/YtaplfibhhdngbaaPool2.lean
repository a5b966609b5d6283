/- The last row up to a place; a row is set. -/
import Derived.Test.YtaplfibhhdngbaaPool1
namespace Go.Proofs.Ytaplfibhhdngbaa.pools
open Go.RowKit Go.Proofs.Ytaplfibhhdngbaa.own Go.Proofs.Ytaplfibhhdngbaa.trees
variable {B b o k sz : Nat} {ao : Option Addr} {cap : Nat} {T : List Int} {w : World}

theorem last_neg (u : Int) (hu : u < 0) (w : World) : Calls Try.prog 47 #[.pointer (some ⟨b, o, none⟩), .int .i64 u] w fun e w' => e = .returned (.int .i64 (-1)) ∧ w = w' := by
  go_enter Try.func47, Try.ntmps47
  go_wp2_with fail
  go_ret
  exact ⟨rfl, rfl⟩
/-- What last answers: the last place up to u with a row, or none. -/
inductive LastR (T : List Int) (sz u : Nat) : Int → Prop
  | found (p : Nat) (h1 : p ≤ u) (h2 : T.getD (sz + p) 0 ≠ 0) (h3 : Zero T (sz + p + 1) (sz + u)) : LastR T sz u (p : Int)
  | none (h : Zero T sz (sz + u)) : LastR T sz u (-1)
def LNode (k sz u : Nat) (T : List Int) (i g : Nat) : Prop := ∃ d h, TNode k d h i ∧ Zero T ((i + 1) * 2 ^ h) (sz + u) ∧ g = (i + 1) * 2 ^ h ∧ (i + 1) * 2 ^ h ≤ sz + u + 1
def LDown (k sz u : Nat) (T : List Int) (q : Nat) : Prop := ∃ d h, TNode k d h q ∧ Zero T ((q + 1) * 2 ^ h) (sz + u) ∧ T.getD q 0 ≠ 0 ∧ (q + 1) * 2 ^ h ≤ sz + u + 1

set_option maxRecDepth 100000 in
set_option maxHeartbeats 4000000 in
theorem last_near (u : Nat) (h : Runs B b o k sz ao cap T w) (hu : u < sz) :
    Calls Try.prog 47 #[.pointer (some ⟨b, o, none⟩), .int .i64 u] w fun e w' => (∃ r, e = .returned (.int .i64 r) ∧ LastR T sz u r) ∧ w = w' := by
  have c0 := h.c0
  have c1 := h.c1
  have hl := h.len
  have hfew := h.few
  have hcap := h.row.cap_ge
  have hpos := h.pos
  obtain ⟨g, rfl, hb⟩ := h.block
  have HT := Lib.hid h.tree
  have HSZ := Lib.hid h.size
  have HNN : Hid (∀ j, 2 ^ k ≤ j → 0 ≤ T.getD j 0) := Lib.hid (fun j _ => (h.small j).1)
  have HSM := Lib.hid h.small
  have HB := Lib.hid hb
  have r1 := (hb 1 (by omega)).1
  have s1 := h.small 1
  have hTl : 1 < T.length := by omega
  have HL := Lib.hid hl
  have HRT := Lib.hid (fun (hh : T.getD 1 0 = 0) => (show LastR T sz u (-1) from .none (by
    have nd : TNode k 0 k 1 := ⟨by omega, by simp, by simp⟩
    intro j h1 h2
    have hb := h.tree.below k 0 1 nd j (by rw [Nat.one_mul, ← h.size]; exact h1) (by rw [← h.size]; omega)
    have := (h.small j).1
    omega)))
  have HN0 : Hid (LNode k sz u T (sz + u) (sz + u + 1)) := Lib.hid ⟨k, 0, by rw [h.size]; exact TNode.leaf (by rw [← h.size]; exact hu), by simp only [Nat.pow_zero, Nat.mul_one]; (intro j h1 h2; omega), by simp, by simp⟩
  clear h hb hl
  by_cases hroot : T.getD 1 0 = 0
  · have HF := Lib.hid (HRT.out hroot)
    have hrb : (T.getD 1 0 == 0) = true := by rw [hroot]; rfl
    generalize T.getD 1 0 = x1 at *
    clear HRT hroot
    go_enter Try.func47, Try.ntmps47
    go_wp2_with fail
    go_ret
    exact ⟨⟨_, rfl, HF.out⟩, rfl⟩
  · clear HRT
    have hrb : (T.getD 1 0 == 0) = false := by simpa using hroot
    generalize T.getD 1 0 = x1 at *
    clear hroot
    go_enter Try.func47, Try.ntmps47
    go_wp2_with fail
    go_loopg [5] (sz + u + 1) (fun gk i wr => ∃ m : Nat, i = .int .i64 m ∧ wr = w ∧ m < 2 * sz ∧ Hid (LNode k sz u T m gk))
    case atStart => exact ⟨sz + u, by go_num, rfl, by omega, HN0⟩
    case round =>
      obtain ⟨m, rfl, rfl, hm, HA⟩ := hrel
      obtain ⟨d, h, nd, hless, hg, hpl⟩ := HA.out
      have HPL := Lib.hid hpl
      have ND := Lib.hid nd
      have HLE := Lib.hid hless
      have HG := Lib.hid hg
      have rm := (HB.out m hm).1
      have sm := HSM.out m
      have hmT : m < T.length := by have := HL.out; omega
      have hcov := nd.cover
      have hm1 : 1 ≤ m := hcov.2.2
      clear nd hless hg hcov HN0 hpl
      by_cases hlt : T.getD m 0 = 0
      · have HM2 := Lib.hid (HLE.out.more HT.out HNN.out ND.out hlt)
        have HC0 : Hid (ClimbL k (m * 2 ^ h) m) := Lib.hid ⟨.inr ⟨d, h, ND.out, rfl⟩⟩
        have hxb : (T.getD m 0 == 0) = true := by rw [hlt]; rfl
        generalize T.getD m 0 = xm at *
        have HE : Hid (m * 2 ^ h < (m + 1) * 2 ^ h ∧ m * 2 ^ h ≤ sz + u) := Lib.hid (by
          have h2 := HPL.out
          rw [Nat.add_mul] at h2 ⊢
          have := pow_pos2 h
          omega)
        generalize hE : m * 2 ^ h = E at *
        clear hE hlt
        go_wp2_with fail
        go_loop [5] (fun v => ∃ m' : Nat, v = .int .i64 m' ∧ m' ≤ m ∧ 1 ≤ m' ∧ Hid (ClimbL k E m')) (fun v => (intOf v).toNat)
        case atStart => exact ⟨m, rfl, by omega, hm1, HC0⟩
        case round =>
          obtain ⟨m', rfl, hm', hm'1, HC⟩ := hrel
          by_cases hev : m' % 2 = 0
          · have HC2 : Hid (ClimbL k E (m' / 2)) := Lib.hid (by
              have e : m' = 2 * (m' / 2) := by omega
              have := HC.out
              rw [e] at this
              exact this.up (by omega))
            have hmod : ((m' : Int) % 2 == 0) = true := by simp; omega
            have HODD := Lib.hid hev
            clear hev
            go_wp2_with fail
            go_round
            case rel => exact ⟨m' / 2, by go_num, by omega, by have := HODD.out; omega, HC2⟩
            case measure => have := HODD.out; simp [intOf]; omega
          · have hmod : ((m' : Int) % 2 == 0) = false := by simp; omega
            have HEV : Hid (m' % 2 = 1) := Lib.hid (by omega)
            clear hev
            by_cases hz : m' = 1
            · subst hz
              have HF : Hid (LastR T sz u (-1)) := Lib.hid (.none (by
                have h2 := HM2.out
                rw [HC.out.one, ← HSZ.out] at h2
                exact h2))
              go_wp2_with fail
              go_ret
              exact ⟨⟨_, rfl, HF.out⟩, rfl⟩
            · have hzb : ((m' : Int) == 1) = false := by simp; omega
              have HN2 : Hid (LNode k sz u T (m' - 1) E ∧ m' - 1 < 2 * sz) := Lib.hid (by
                have e : m' = 2 * (m' / 2) + 1 := by have := HEV.out; omega
                have hc := HC.out
                rw [e] at hc
                obtain ⟨d', h', n', hE'⟩ := hc.next (by omega)
                have e2 : m' - 1 = 2 * (m' / 2) := by omega
                rw [e2]
                exact ⟨⟨d', h', n', by rw [hE']; exact HM2.out, hE'.symm, by rw [hE']; have := HE.out.2; omega⟩, by omega⟩)
              go_wp2_with fail
              go_roundg E
              case rel => exact ⟨m' - 1, by go_num, rfl, HN2.out.2, Lib.hid HN2.out.1⟩
              case measure => have h1 := HG.out; have h2 := HE.out; omega
      · have HD0 : Hid (LDown k sz u T m) := Lib.hid ⟨d, h, ND.out, HLE.out, hlt, HPL.out⟩
        have hxb : (T.getD m 0 == 0) = false := by simpa using hlt
        generalize T.getD m 0 = xm at *
        clear hlt
        go_wp2_with fail
        go_loop [5] (fun v => ∃ q : Nat, v = .int .i64 q ∧ q < 2 * sz ∧ 1 ≤ q ∧ Hid (LDown k sz u T q)) (fun v => 2 * sz - (intOf v).toNat)
        case atStart => exact ⟨m, rfl, hm, hm1, HD0⟩
        case round =>
          obtain ⟨q, rfl, hq, hq1, HQ⟩ := hrel
          obtain ⟨d', h', nd', hless', hge', hpl'⟩ := HQ.out
          have HPL' := Lib.hid hpl'
          have ND' := Lib.hid nd'
          have HLE' := Lib.hid hless'
          have HGE' := Lib.hid hge'
          clear nd' hless' hge' hpl'
          by_cases hqs : q < sz
          · have hh : h' ≠ 0 := by have := ND'.out.height; rw [← HSZ.out] at this; exact this.1 hqs
            obtain ⟨hp, rfl⟩ : ∃ hp, h' = hp + 1 := ⟨h' - 1, by omega⟩
            have rm2 := (HB.out (2 * q + 1) (by omega)).1
            have sm2 := HSM.out (2 * q + 1)
            have hmT2 : 2 * q + 1 < T.length := by have := HL.out; omega
            have hmx := Lib.hid (HT.out.most q hq1 (by rw [← HSZ.out]; exact hqs))
            have HS2 := Lib.hid (HSM.out (2 * q))
            have hZ2 : Hid (Zero T ((2 * q + 1 + 1) * 2 ^ hp) (sz + u)) := Lib.hid (by rw [ends_right]; exact HLE'.out)
            have hP2 : Hid ((2 * q + 1 + 1) * 2 ^ hp ≤ sz + u + 1) := Lib.hid (by rw [ends_right]; exact HPL'.out)
            by_cases hl2 : T.getD (2 * q + 1) 0 = 0
            · have HD2 : Hid (LDown k sz u T (2 * q)) := Lib.hid (by
                have hz := hZ2.out.more HT.out HNN.out ND'.out.right hl2
                refine ⟨_, hp, ND'.out.left, hz, ?_, ?_⟩
                · have h1 := hmx.out
                  have h2 := HGE'.out
                  have h3 := HS2.out
                  rw [hl2] at h1
                  omega
                · have h1 := hP2.out
                  have h2 : (2 * q + 1 + 1) * 2 ^ hp = (2 * q + 1) * 2 ^ hp + 2 ^ hp := by rw [Nat.add_mul]; omega
                  exact Nat.le_trans (by rw [h2]; exact Nat.le_add_right _ _) h1)
              have hxb2 : (T.getD (2 * q + 1) 0 == 0) = true := by rw [hl2]; rfl
              generalize T.getD (2 * q + 1) 0 = x2 at *
              clear hl2
              go_wp2_with fail
              go_round
              case rel => exact ⟨2 * q, by go_num, by omega, by omega, HD2⟩
              case measure => simp [intOf]; omega
            · have HD2 : Hid (LDown k sz u T (2 * q + 1)) := Lib.hid ⟨_, hp, ND'.out.right, hZ2.out, hl2, hP2.out⟩
              have hxb2 : (T.getD (2 * q + 1) 0 == 0) = false := by simpa using hl2
              generalize T.getD (2 * q + 1) 0 = x2 at *
              clear hl2
              go_wp2_with fail
              go_round
              case rel => exact ⟨2 * q + 1, by go_num, by omega, by omega, HD2⟩
              case measure => simp [intOf]; omega
          · have HF : Hid (LastR T sz u ((q : Int) - (sz : Int))) := Lib.hid (by
              have hh : h' = 0 := by
                have := ND'.out.height
                rw [← HSZ.out] at this
                by_cases e : h' = 0
                · exact e
                · exact absurd (this.2 e) hqs
              subst hh
              have hl := HLE'.out
              have hqa := HPL'.out
              simp only [Nat.pow_zero, Nat.mul_one] at hl hqa
              have e : (q : Int) - (sz : Int) = ((q - sz : Nat) : Int) := by omega
              rw [e]
              refine .found (q - sz) (by omega) ?_ ?_
              · rw [show sz + (q - sz) = q by omega]; exact HGE'.out
              · rw [show sz + (q - sz) + 1 = q + 1 by omega]; exact hl)
            go_wp2_with fail
            go_ret
            exact ⟨⟨_, rfl, HF.out⟩, rfl⟩
end Go.Proofs.Ytaplfibhhdngbaa.pools
