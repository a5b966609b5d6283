/- Keep, for any question; the questions always and never. -/
import Derived.Test.YtghegbdnecobkaaRoom6
namespace Go.Proofs.Ytghegbdnecobkaa.rooms
open Go.RowKit

theorem Row.base {E B B' : Nat} {ao : Option Addr} {cap : Nat} {xs : List Int} {w : World} (h : Row E B ao cap xs w) (hB : B' ≤ B) : Row E B' ao cap xs w := by
  obtain ⟨h1, h2⟩ := h
  refine ⟨h1, ?_⟩
  rcases h2 with h2 | ⟨g, cap', cur, hv, hb, rest⟩
  · exact .inl h2
  · exact .inr ⟨g, cap', cur, hv, Nat.le_trans hB hb, rest⟩

theorem keep_any {B b : Nat} {ao : Option Addr} {cap : Nat} {xs : List Int} {lim most : Int} {w : World} {K : Nat} {first : Array Value} {kb : Nat → Prop} {kp : Int → Bool} {Inv : Nat → Option Addr → World → Prop} {ak0 : Option Addr}
    (h : RoomP B b ao cap xs lim most w) (hn : xs.length ≤ 1048576) (hE : ∀ args w, (callFunc K args).run Try.prog w = .ok (.enter K args) w) (hA : Asks K first kb kp xs Inv) (hI : Inv 0 ak0 w) (hd : ∀ j, Mine b ao j → ¬ Held kb ak0 j) :
    Calls Try.prog 23 #[.pointer (some ⟨b, 0, none⟩), .func (.func K) first #[]] w fun e w' => e = .returned (.int .i64 ((xs.length : Int) - ((xs.filter kp).length : Nat))) ∧
      ∃ ao' cap' ak', RoomP B b ao' cap' (xs.filter kp) lim most w' ∧ Inv xs.length ak' w' ∧ NewRow w.heap.size ak0 ak' ∧ (∀ j, Mine b ao' j → ¬ Held kb ak' j) ∧ Only (fun j => j = b ∨ Held kb ak0 j) w w' ∧ NewRow w.heap.size ao ao' := by
  have c0 := h.c0
  have hle : (xs.filter kp).length ≤ xs.length := List.length_filter_le _ _
  have H := Lib.hid h
  have HD := Lib.hid hd
  have hrow : Row 31 B ao cap xs w := h.row
  have hS := sift_any K first kb kp Inv B ao cap xs ak0 w hA hI (Lib.hid hrow) (Lib.hid (fun g hg => hd _ (.inr ⟨g, hg, rfl⟩))) hn hE
  have HS := Lib.hid hS
  have HA := Lib.hid hA
  clear h hd hrow hS hA hI
  go_enter Try.func23, Try.ntmps23
  go_wp2_with fail
  refine HS.out.mono ?_
  rintro e w1 ⟨aok, capk, ak', rfl, r1, i1, n1, a1, o1⟩
  have R1 := Lib.hid r1
  have I1 := Lib.hid i1
  have N1 := Lib.hid n1
  have A1 := Lib.hid a1
  have O1 := Lib.hid o1
  have hb : w1.heap[b]? = some (.cells #[.slice ao xs.length cap, .int .i64 lim, .int .i64 most] 53 (0, 0)) := by
    rw [o1.block b H.out.lt (HD.out b (.inl rfl))]
    exact H.out.blk
  have HB := Lib.hid hb
  clear r1 i1 n1 a1 o1 HS hb
  have c0 := cell_of_blk HB.out 0
  have f0 := free_of_blk HB.out 0
  generalize hys : xs.filter kp = ys at *
  go_wp2_with fail
  subst hys
  go_ret
  have hlt := H.out.lt
  have hlow := H.out.low
  have far : ∀ g, aok = some g → w.heap.size + 2 ≤ g.block := fun g hg => (R1.out.head g hg).2.1
  have away : ¬ Held kb ak' b := fun hm => by
    rcases Held.next N1.out hm with h1 | h1
    · exact HD.out b (.inl rfl) h1
    · omega
  have o2 : Only (· = b) w1 (w1.setCell ⟨b, 0, none⟩ (.slice aok (xs.filter kp).length capk)) := Only.setCell (S := (· = b)) w1 (p := ⟨b, 0, none⟩) rfl _
  refine ⟨rfl, aok, capk, ak', IsRoom.behind (blk_set HB.out 0 _) (R1.out.base (by omega)) o2 hlow (fun g hg e => by have := far g hg; omega), ?_, ?_, ?_, ?_, ?_⟩
  · exact HA.out.stays _ _ _ _ _ I1.out o2 (fun j hj e => away (by rw [← e]; exact hj))
  · intro g hg
    rcases N1.out g hg with h1 | h1
    · exact .inl h1
    · exact .inr (by omega)
  · rintro j (rfl | ⟨g, hg, rfl⟩)
    · exact away
    · exact A1.out g hg
  · exact (O1.out.mono (fun _ _ e => .inr e)).same (o2.mono (fun _ _ e => .inl e))
  · exact fun g hg => .inr (by have := far g hg; omega)

theorem always_any (i x : Int) (w : World) : Calls Try.prog 25 #[.int .i64 i, .int .u64 x] w fun e w' => e = .returned (.bool true) ∧ w = w' := by
  go_enter Try.func25, Try.ntmps25
  go_wp2
  go_ret
  exact ⟨rfl, rfl⟩
theorem never_any (i x : Int) (w : World) : Calls Try.prog 24 #[.int .i64 i, .int .u64 x] w fun e w' => e = .returned (.bool false) ∧ w = w' := by
  go_enter Try.func24, Try.ntmps24
  go_wp2
  go_ret
  exact ⟨rfl, rfl⟩
theorem enters_always : ∀ args w, (callFunc 25 args).run Try.prog w = .ok (.enter 25 args) w := by
  intro args w
  rfl
theorem enters_never : ∀ args w, (callFunc 24 args).run Try.prog w = .ok (.enter 24 args) w := by
  intro args w
  rfl
/-- A question that keeps nothing of its own. -/
def Idle (_ : Nat) (ak : Option Addr) (_ : World) : Prop := ak = none
theorem asks_idle {K : Nat} {t : Bool} {xs : List Int} (hc : ∀ i x w, Calls Try.prog K #[.int .i64 i, .int .u64 x] w fun e w' => e = .returned (.bool t) ∧ w = w') : Asks K #[] (fun _ => False) (fun _ => t) xs Idle := by
  refine ⟨fun k ak wr _ hI => ?_, fun k ak w w' S hI _ _ => hI, fun k ak w hI j hj => ?_⟩
  · refine (hc k (xs.getD k 0) wr).mono ?_
    rintro e w' ⟨rfl, rfl⟩
    exact ⟨rfl, ak, hI, Only.refl _ _, NewRow.refl _ _⟩
  · cases hI
    rcases hj with h | ⟨g, hg, _⟩
    · exact h.elim
    · cases hg
theorem keep_idle {B b : Nat} {ao : Option Addr} {cap : Nat} {xs : List Int} {lim most : Int} {w : World} {K : Nat} {t : Bool} (h : RoomP B b ao cap xs lim most w) (hn : xs.length ≤ 1048576) (hE : ∀ args w, (callFunc K args).run Try.prog w = .ok (.enter K args) w)
    (hc : ∀ i x w, Calls Try.prog K #[.int .i64 i, .int .u64 x] w fun e w' => e = .returned (.bool t) ∧ w = w') :
    Calls Try.prog 23 #[.pointer (some ⟨b, 0, none⟩), .func (.func K) #[] #[]] w fun e w' => e = .returned (.int .i64 ((xs.length : Int) - ((xs.filter (fun _ => t)).length : Nat))) ∧
      ∃ ao' cap', RoomP B b ao' cap' (xs.filter (fun _ => t)) lim most w' ∧ Only (· = b) w w' ∧ NewRow w.heap.size ao ao' := by
  refine (keep_any h hn hE (asks_idle hc) rfl (fun j _ hj => ?_)).mono ?_
  · rcases hj with h | ⟨g, hg, _⟩
    · exact h.elim
    · cases hg
  · rintro e w' ⟨e1, ao', cap', ak', h1, _, _, _, h2, h3⟩
    refine ⟨e1, ao', cap', h1, h2.mono (fun j _ hj => ?_), h3⟩
    rcases hj with h | h | ⟨g, hg, _⟩
    · exact h
    · exact h.elim
    · cases hg
theorem keep_always {B b : Nat} {ao : Option Addr} {cap : Nat} {xs : List Int} {lim most : Int} {w : World} (h : RoomP B b ao cap xs lim most w) (hn : xs.length ≤ 1048576) :
    Calls Try.prog 23 #[.pointer (some ⟨b, 0, none⟩), .func (.func 25) #[] #[]] w fun e w' => e = .returned (.int .i64 0) ∧ ∃ ao' cap', RoomP B b ao' cap' xs lim most w' ∧ Only (· = b) w w' := by
  refine (keep_idle h hn enters_always always_any).mono ?_
  rintro e w' ⟨e1, ao', cap', h1, h2, _⟩
  have hf : xs.filter (fun _ => true) = xs := by simp
  rw [hf] at e1 h1
  exact ⟨by rw [e1, Int.sub_self], ao', cap', h1, h2⟩
theorem keep_never {B b : Nat} {ao : Option Addr} {cap : Nat} {xs : List Int} {lim most : Int} {w : World} (h : RoomP B b ao cap xs lim most w) (hn : xs.length ≤ 1048576) :
    Calls Try.prog 23 #[.pointer (some ⟨b, 0, none⟩), .func (.func 24) #[] #[]] w fun e w' => e = .returned (.int .i64 xs.length) ∧ ∃ ao' cap', RoomP B b ao' cap' [] lim most w' ∧ Only (· = b) w w' := by
  refine (keep_idle h hn enters_never never_any).mono ?_
  rintro e w' ⟨e1, ao', cap', h1, h2, _⟩
  have hf : xs.filter (fun _ => false) = [] := by simp
  rw [hf] at e1 h1
  exact ⟨by rw [e1]; simp, ao', cap', h1, h2⟩
end Go.Proofs.Ytghegbdnecobkaa.rooms
