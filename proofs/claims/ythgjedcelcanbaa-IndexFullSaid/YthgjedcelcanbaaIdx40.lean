/- Selection by keys: the law of every call. -/
import Derived.Test.YthgjedcelcanbaaIdx39
import Derived.Test.YthgjedcelcanbaaIdx23
namespace Go.Proofs.Ythgjedcelcanbaa.idx
set_option maxRecDepth 100000
open Go.RowKit Go.Proofs.Ythgjedcelcanbaa.own Go.Lib Go.Maps Go.WideMaps
/-- One call of the law. -/
structure OpI where
  kd : Int
  i : Int
  k : Ky
  f : Bool
instance : Inhabited OpI := ⟨⟨0, 0, zK, false⟩⟩
/-- These calls lie where an argument says. -/
def ArgI (ao : Option Addr) (q : List OpI) (W : World) : Prop := ∀ (i : Nat) (y : OpI), q[i]? = some y → ∃ b off, ao = some ⟨b, off, none⟩ ∧ b < W.heap.size ∧ (W.cell? ⟨b, off + i * 6, none⟩ = some (.int .i64 y.kd) ∧ W.cell? ⟨b, off + i * 6 + 1, none⟩ = some (.int .i64 y.i) ∧ W.cell? ⟨b, off + i * 6 + 2, none⟩ = some (.int .i64 y.k.k) ∧ W.cell? ⟨b, off + i * 6 + 3, none⟩ = some (.string y.k.s) ∧ W.cell? ⟨b, off + i * 6 + 4, none⟩ = some (.int .i64 y.k.n) ∧ W.cell? ⟨b, off + i * 6 + 5, none⟩ = some (.bool y.f)) ∧ Fit y.kd ∧ Fit y.i ∧ y.k.Ok
theorem ArgI.later {ao : Option Addr} {q : List OpI} {W W' : World} (h : ArgI ao q W) (ho : Only (fun _ => False) W W') : ArgI ao q W' := fun i y hy => by
  obtain ⟨b, off, h1, h2, ⟨c0, c1, c2, c3, c4, c5⟩, h3⟩ := h i y hy
  exact ⟨b, off, h1, Nat.lt_of_lt_of_le h2 ho.size, ⟨(ho.cell (p := ⟨b, _, none⟩) h2 (fun e => e)).trans c0, (ho.cell (p := ⟨b, _, none⟩) h2 (fun e => e)).trans c1, (ho.cell (p := ⟨b, _, none⟩) h2 (fun e => e)).trans c2, (ho.cell (p := ⟨b, _, none⟩) h2 (fun e => e)).trans c3, (ho.cell (p := ⟨b, _, none⟩) h2 (fun e => e)).trans c4, (ho.cell (p := ⟨b, _, none⟩) h2 (fun e => e)).trans c5⟩, h3⟩
/-- Both tables, made since w. -/
structure Side (w : World) (b x N : Nat) (s : St) (M : List Pr) (W : World) : Prop where
  two : Two w.heap.size b x N s M W
  o : Only (fun _ => False) w W
section
variable {b x N : Nat} {s : St} {M : List Pr} {w W W' : World}
theorem Side.later (h : Side w b x N s M W) (ho : Only (fun _ => False) W W') : Side w b x N s M W' := ⟨h.two.later ho, h.o.same ho⟩
/-- Both tell the same of what meets a key. -/
theorem Side.all (h : Side w b x N s M W) (k : Ky) (hk : k.Ok) : ∃ xs : List Int, xs.length ≤ 1000000 ∧ (∀ W', Only (fun _ => False) W W' → Calls Try.prog 11 #[.pointer (some ⟨b, 0, none⟩), kyV k] W' fun e w' => ∃ a c, e = .returned (.slice a xs.length c) ∧ NumsAt w' a xs ∧ Only (fun _ => False) W' w') ∧ (∀ W', Only (fun _ => False) W W' → Calls Try.prog 12 #[.pointer (some ⟨x, 0, none⟩), kyV k] W' fun e w' => ∃ a c, e = .returned (.slice a xs.length c) ∧ NumsAt w' a xs ∧ Only (fun _ => False) W' w') := by
  obtain ⟨ao, cap, hr⟩ := h.two.r
  have hl := h.two.len
  refine ⟨(metP k M).map (·.id), by rw [List.length_map]; have := metP_len k M; omega, fun W' o => ?_, fun W' o => ?_⟩
  · refine (all_tab (TabB.later h.two.t o) k hk).mono ?_
    rintro e w1 ⟨a, c, rfl, hn, ho⟩
    rw [h.two.rl.met k] at hn
    refine ⟨a, c, ?_, NumsAt.row hn, ho⟩
    have := congrArg List.length (h.two.rl.met k)
    simp only [List.length_map] at this
    rw [List.length_map, this]
  · refine (rall_any (hr.later o) k (by omega)).mono ?_
    rintro e w1 ⟨a, c, rfl, hn, ho⟩
    exact ⟨a, c, by rw [List.length_map], NumsAt.row hn, ho⟩
/-- Both tell the same of what meets a key. -/
theorem Side.all0 (h : Side w b x N s M W) : ∃ xs : List Int, xs.length ≤ 1000000 ∧ (∀ W', Only (fun _ => False) W W' → Calls Try.prog 11 #[.pointer (some ⟨b, 0, none⟩), (.agg #[.int .i64 0, .string ⟨#[]⟩, .int .i64 0] : Value)] W' fun e w' => ∃ a c, e = .returned (.slice a xs.length c) ∧ NumsAt w' a xs ∧ Only (fun _ => False) W' w') ∧ (∀ W', Only (fun _ => False) W W' → Calls Try.prog 12 #[.pointer (some ⟨x, 0, none⟩), (.agg #[.int .i64 0, .string ⟨#[]⟩, .int .i64 0] : Value)] W' fun e w' => ∃ a c, e = .returned (.slice a xs.length c) ∧ NumsAt w' a xs ∧ Only (fun _ => False) W' w') := h.all zK zK_ok
end
theorem same_same (xs : List Int) (hl : xs.length ≤ 1000000) {a a' : Option Addr} (c c' : Nat) {W : World} (hx : NumsAt W a xs) (hy : NumsAt W a' xs) : Calls Try.prog 10 #[.slice a xs.length c, .slice a' xs.length c'] W fun e w' => e = .returned (.bool true) ∧ Only (fun _ => False) W w' := by
  have := same_ints xs xs a a' c c' W hx hy hl hl
  simpa using this
set_option maxHeartbeats 16000000 in
theorem law_does (qo : Option Addr) (qc : Nat) (q : List OpI) (w : World) (hq : ArgI qo q w) (hql : q.length ≤ maxLen) :
    Calls Try.prog 3 #[.slice qo q.length qc] w fun e w' => e = .returned (.bool true) ∧ Below w.heap.size w w' := by
  have HQ := Lib.hid hq
  have HLV := Lib.hid lives_any
  clear hq
  go_enter Try.func3, Try.ntmps3
  go_wp2_with fail
  refine (new_tab w).mono ?_
  rintro e w1 ⟨rfl, ht, ho⟩
  have HT := Lib.hid ht
  have HO := Lib.hid ho
  clear ht ho
  have HS : Hid (Side w (w.heap.size + 2) w1.heap.size 0 ⟨[], -1, 0⟩ [] (w1.alloc (.cells #[.slice none 0 0] 28))) := Lib.hid ⟨⟨HT.out.later (Only.alloc _ _ _), ⟨none, 0, heap_alloc_new _ _, RowOf.nil _ _ _ _ _⟩, HO.out.size, rfl⟩, HO.out.same (Only.alloc _ _ _)⟩
  clear HT HO
  go_upto_region 2 with fail
  generalize w1.alloc (.cells #[.slice none 0 0] 28) = w2 at *
  generalize w1.heap.size = x at *
  generalize hb : w.heap.size + 2 = b at *
  go_wp2_with fail
  refine (HLV.out w2).mono ?_
  rintro e w3 ⟨rfl, ho⟩
  replace HS := Lib.hid (HS.out.later ho)
  clear ho HLV
  go_wp2_with fail
  go_loopw [5] (fun iv wr => ∃ (j : Nat) (s : St) (M : List Pr), iv = .int .i64 j ∧ j ≤ q.length ∧ j ≤ 60 ∧ Hid (Side w b x j s M wr)) (fun iv _ => q.length - (RowKit.intOf iv).toNat)
  case atStart => exact ⟨0, _, _, rfl, by omega, by omega, HS⟩
  case round =>
    obtain ⟨j, s, M, rfl, hj, hj60, hI⟩ := hrel
    clear HS
    have j0 : (0 : Int) ≤ (j : Int) := by omega
    by_cases hlt : j < q.length
    · have j1 : (j : Int) < (q.length : Int) := by omega
      by_cases hlt2 : j < 60
      · have j2 : (j : Int) < 60 := by omega
        obtain ⟨y, hy⟩ : ∃ y, q[j]? = some y := ⟨_, List.getElem?_eq_getElem hlt⟩
        obtain ⟨g, off, rfl, _, _, hf1, hf2, hf3⟩ := HQ.out j y hy
        have HC : Hid (∀ W, Only (fun _ => False) w W → W.cell? ⟨g, off + j * 6, none⟩ = some (.int .i64 y.kd) ∧ W.cell? ⟨g, off + j * 6 + 1, none⟩ = some (.int .i64 y.i) ∧ W.cell? ⟨g, off + j * 6 + 2, none⟩ = some (.int .i64 y.k.k) ∧ W.cell? ⟨g, off + j * 6 + 3, none⟩ = some (.string y.k.s) ∧ W.cell? ⟨g, off + j * 6 + 4, none⟩ = some (.int .i64 y.k.n) ∧ W.cell? ⟨g, off + j * 6 + 5, none⟩ = some (.bool y.f)) := Lib.hid (fun W ho => by
          obtain ⟨b', off', e, _, h, _⟩ := HQ.out.later ho j y hy
          cases e
          exact h)
        clear hy
        obtain ⟨kd, i, k, f⟩ := y
        simp only at HC hf1 hf2 hf3
        have HOK := Lib.hid hf3
        have HD : Hid (Calls Try.prog 8 #[.pointer (some ⟨b, 0, none⟩), .pointer (some ⟨x, 0, none⟩), sixV kd i k f] wr.drew (fun e w' => DoOut w.heap.size b x j wr.drew w' e)) := Lib.hid (do_any (hI.out.two.later (Only.drew _ _)) (by omega) kd i hf2 k hf3 f)
        have HO : Hid (Only (fun _ => False) w wr.drew) := Lib.hid (hI.out.o.same (Only.drew _ _))
        clear hI hf1 hf2 hf3
        go_upto_region 7 with fail
        go_cut [70] from 25 to 70 (fun s70 wx => s70 = .bool false ∧ Hid (∃ s2 M2, Side w b x (j + 1) s2 M2 wx))
        case first =>
          obtain ⟨c0, c1, c2, c3, c4, c5⟩ := HC.out _ HO.out
          refine wp_region_any (by kernel_rfl) ?_
          change wpAny _ _ _ _ _ _ _ (World.drew _)
          refine wpAny_take (i := 0) (oi := { dst := some 25, op := Op.move (Operand.tmp 3), type := 23, pos := "law.go:65", after := #[], guard := none }) (v := ?_) rfl (by kernel_rfl) (by kernel_rfl) (by kernel_rfl) (fun _ _ _ h => h) (Or.inl ⟨by rfl, ?_⟩) ?_
          rotate_left
          · (intro wq; go_simp; try with_reducible rfl)
          try simp only [Act.put, List.setIfInBounds_toArray, List.set_cons_zero, List.set_cons_succ]
          refine wpAny_take (i := 1) (oi := { dst := some 26, op := Op.move (Operand.tmp 4), type := 25, pos := "law.go:65", after := #[], guard := none }) (v := ?_) rfl (by kernel_rfl) (by kernel_rfl) (by kernel_rfl) (fun _ _ _ h => h) (Or.inl ⟨by rfl, ?_⟩) ?_
          rotate_left
          · (intro wq; go_simp; try with_reducible rfl)
          try simp only [Act.put, List.setIfInBounds_toArray, List.set_cons_zero, List.set_cons_succ]
          refine wpAny_take (i := 2) (oi := { dst := some 27, op := Op.move (Operand.tmp 0), type := 22, pos := "law.go:65", after := #[], guard := none }) (v := ?_) rfl (by kernel_rfl) (by kernel_rfl) (by kernel_rfl) (fun _ _ _ h => h) (Or.inl ⟨by rfl, ?_⟩) ?_
          rotate_left
          · (intro wq; go_simp; try with_reducible rfl)
          try simp only [Act.put, List.setIfInBounds_toArray, List.set_cons_zero, List.set_cons_succ]
          refine wpAny_take (i := 3) (oi := { dst := some 28, op := Op.move (Operand.tmp 5), type := 3, pos := "law.go:65", after := #[], guard := none }) (v := ?_) rfl (by kernel_rfl) (by kernel_rfl) (by kernel_rfl) (fun _ _ _ h => h) (Or.inl ⟨by rfl, ?_⟩) ?_
          rotate_left
          · (intro wq; go_simp; try with_reducible rfl)
          try simp only [Act.put, List.setIfInBounds_toArray, List.set_cons_zero, List.set_cons_succ]
          refine wpAny_take (i := 4) (oi := { dst := some 29, op := Op.indexAddr 22 (Operand.tmp 27) (Operand.tmp 28), type := 0, pos := "law.go:65", after := #[{ on := 2, ground := Ground.data }, { on := 3, ground := Ground.data }], guard := none }) (v := ?_) rfl (by kernel_rfl) (by kernel_rfl) (by kernel_rfl) (fun _ _ _ h => h) (Or.inl ⟨by rfl, ?_⟩) ?_
          rotate_left
          · (intro wq; go_simp; try with_reducible rfl)
          try simp only [Act.put, List.setIfInBounds_toArray, List.set_cons_zero, List.set_cons_succ]
          refine wpAny_ready (rs := [5]) (by kernel_rfl) (by simp) ?_
          refine AllReady.cons (o := { dst := some 30, op := Op.load 34 (Operand.tmp 29), type := 34, pos := "law.go:65", after := #[{ on := 4, ground := Ground.data }], guard := none }) rfl (fun K hK => ?_) AllReady.nil
          go_simp
          refine hK _ _ ?_
          clear hK K
          refine wpAny_ready (rs := [6]) (by kernel_rfl) (by simp) ?_
          refine AllReady.cons (o := { dst := some 31, op := Op.call { callee := Callee.value (Operand.func 8), args := #[Operand.tmp 25, Operand.tmp 26, Operand.tmp 30], argTypes := #[23, 25, 34] }, type := 4, pos := "law.go:65", after := #[{ on := 0, ground := Ground.data }, { on := 1, ground := Ground.data }, { on := 5, ground := Ground.data }], guard := none }) rfl (fun K hK => ?_) AllReady.nil
          go_simp
          refine HD.out.mono ?_
          rintro r u2 ⟨rfl, ⟨s2, M2, h2⟩, o2⟩
          have S2 : Hid (Side w b x (j + 1) s2 M2 u2) := Lib.hid ⟨h2, Only.cut HO.out o2 (fun _ e => e)⟩
          obtain ⟨ao, cap, hr2⟩ := h2.r
          have HR2 := Lib.hid hr2
          have HLN := Lib.hid h2.rl.len
          obtain ⟨xs, hxl, hxP, hxR⟩ := S2.out.all k HOK.out
          obtain ⟨ys, hyl, hyP, hyR⟩ := S2.out.all0
          have HXP := Lib.hid hxP
          have HXR := Lib.hid hxR
          have HYP := Lib.hid hyP
          have HYR := Lib.hid hyR
          have HXL := Lib.hid hxl
          have HYL := Lib.hid hyl
          have HTL := Lib.hid (len_tab h2.t)
          rw [← HLN.out] at HTL
          have hne : ((M2.length : Int) != (M2.length : Int)) = false := by simp
          clear h2 o2 hr2 hxP hxR hyP hyR hxl hyl
          refine hK _ _ ?_
          clear hK K c0 c1 c2 c3 c4 c5
          have HELDOF : Hid (∀ W : World, Only (fun _ => False) u2 W → (fun W : World => W.cell? ⟨x, 0, none⟩ = some (.slice ao M2.length cap) ∧ W.cell? ⟨g, off + j * 6, none⟩ = some (.int .i64 kd) ∧ W.cell? ⟨g, off + j * 6 + 1, none⟩ = some (.int .i64 i) ∧ W.cell? ⟨g, off + j * 6 + 2, none⟩ = some (.int .i64 k.k) ∧ W.cell? ⟨g, off + j * 6 + 3, none⟩ = some (.string k.s) ∧ W.cell? ⟨g, off + j * 6 + 4, none⟩ = some (.int .i64 k.n) ∧ W.cell? ⟨g, off + j * 6 + 5, none⟩ = some (.bool f)) W) := Lib.hid (fun W o => ⟨(HR2.out.later o).cell, HC.out _ (S2.out.o.same o)⟩)
          have hHeld := HELDOF.out u2 (Only.refl _ _)
          have HU := Lib.hid (Only.refl (fun _ => False) u2)
          refine wpAny_of_held (S := fun W : World => W.cell? ⟨x, 0, none⟩ = some (.slice ao M2.length cap) ∧ W.cell? ⟨g, off + j * 6, none⟩ = some (.int .i64 kd) ∧ W.cell? ⟨g, off + j * 6 + 1, none⟩ = some (.int .i64 i) ∧ W.cell? ⟨g, off + j * 6 + 2, none⟩ = some (.int .i64 k.k) ∧ W.cell? ⟨g, off + j * 6 + 3, none⟩ = some (.string k.s) ∧ W.cell? ⟨g, off + j * 6 + 4, none⟩ = some (.int .i64 k.n) ∧ W.cell? ⟨g, off + j * 6 + 5, none⟩ = some (.bool f)) _ _ _ _ ?_
          refine wpAnyH_take (i := 7) (oi := { dst := some 32, op := Op.unOp UnOp.not 4 (Operand.tmp 31), type := 4, pos := "law.go:65", after := #[{ on := 6, ground := Ground.data }], guard := none }) (v := ?_) rfl (by kernel_rfl) (by kernel_rfl) (by kernel_rfl) (fun _ _ _ h => h) (Or.inl ⟨by rfl, ?_⟩) hHeld ?_
          rotate_left
          · (intro wq hSw; (try dsimp only at hSw); go_simp; try with_reducible rfl)
          try simp only [Act.put, List.setIfInBounds_toArray, List.set_cons_zero, List.set_cons_succ]
          refine wpAnyH_take (i := 8) (oi := { dst := some 33, op := Op.move (Operand.tmp 32), type := 4, pos := "law.go:65", after := #[{ on := 7, ground := Ground.data }, { on := 6, ground := Ground.chain }], guard := none }) (v := ?_) rfl (by kernel_rfl) (by kernel_rfl) (by kernel_rfl) (fun _ _ _ h => h) (Or.inl ⟨by rfl, ?_⟩) hHeld ?_
          rotate_left
          · (intro wq hSw; (try dsimp only at hSw); go_simp; try with_reducible rfl)
          try simp only [Act.put, List.setIfInBounds_toArray, List.set_cons_zero, List.set_cons_succ]
          refine wpAnyH_take (i := 9) (oi := { dst := some 34, op := Op.move (Operand.tmp 3), type := 23, pos := "law.go:65", after := #[{ on := 8, ground := Ground.guard }], guard := some (8, false) }) (v := ?_) rfl (by kernel_rfl) (by kernel_rfl) (by kernel_rfl) (fun _ _ _ h => h) (Or.inl ⟨by rfl, ?_⟩) hHeld ?_
          rotate_left
          · (intro wq hSw; (try dsimp only at hSw); go_simp; try with_reducible rfl)
          try simp only [Act.put, List.setIfInBounds_toArray, List.set_cons_zero, List.set_cons_succ]
          refine wpAnyH_take (i := 11) (oi := { dst := some 36, op := Op.move (Operand.tmp 4), type := 25, pos := "law.go:65", after := #[{ on := 8, ground := Ground.guard }], guard := some (8, false) }) (v := ?_) rfl (by kernel_rfl) (by kernel_rfl) (by kernel_rfl) (fun _ _ _ h => h) (Or.inl ⟨by rfl, ?_⟩) hHeld ?_
          rotate_left
          · (intro wq hSw; (try dsimp only at hSw); go_simp; try with_reducible rfl)
          try simp only [Act.put, List.setIfInBounds_toArray, List.set_cons_zero, List.set_cons_succ]
          refine wpAnyH_take (i := 12) (oi := { dst := some 37, op := Op.nilCheck (Operand.tmp 36), type := 0, pos := "law.go:65", after := #[{ on := 11, ground := Ground.data }, { on := 8, ground := Ground.guard }], guard := some (8, false) }) (v := ?_) rfl (by kernel_rfl) (by kernel_rfl) (by kernel_rfl) (fun _ _ _ h => h) (Or.inl ⟨by rfl, ?_⟩) hHeld ?_
          rotate_left
          · (intro wq hSw; (try dsimp only at hSw); go_simp; try with_reducible rfl)
          try simp only [Act.put, List.setIfInBounds_toArray, List.set_cons_zero, List.set_cons_succ]
          refine wpAnyH_take (i := 13) (oi := { dst := some 38, op := Op.fieldAddr 28 (Operand.tmp 37) 0, type := 0, pos := "law.go:65", after := #[{ on := 12, ground := Ground.data }, { on := 8, ground := Ground.guard }], guard := some (8, false) }) (v := ?_) rfl (by kernel_rfl) (by kernel_rfl) (by kernel_rfl) (fun _ _ _ h => h) (Or.inl ⟨by rfl, ?_⟩) hHeld ?_
          rotate_left
          · (intro wq hSw; (try dsimp only at hSw); go_simp; try with_reducible rfl)
          try simp only [Act.put, List.setIfInBounds_toArray, List.set_cons_zero, List.set_cons_succ]
          refine wpAnyH_take (i := 14) (oi := { dst := some 39, op := Op.load 26 (Operand.tmp 38), type := 26, pos := "law.go:65", after := #[{ on := 13, ground := Ground.data }, { on := 8, ground := Ground.guard }], guard := some (8, false) }) (v := ?_) rfl (by kernel_rfl) (by kernel_rfl) (by kernel_rfl) (fun _ _ _ h => h) (Or.inl ⟨by rfl, ?_⟩) hHeld ?_
          rotate_left
          · (intro wq hSw; (try dsimp only at hSw); go_simp; try with_reducible rfl)
          try simp only [Act.put, List.setIfInBounds_toArray, List.set_cons_zero, List.set_cons_succ]
          refine wpAnyH_take (i := 15) (oi := { dst := some 40, op := Op.call { callee := Callee.builtin Builtin.len, args := #[Operand.tmp 39], argTypes := #[26] }, type := 3, pos := "law.go:65", after := #[{ on := 14, ground := Ground.data }, { on := 8, ground := Ground.guard }], guard := some (8, false) }) (v := ?_) rfl (by kernel_rfl) (by kernel_rfl) (by kernel_rfl) (fun _ _ _ h => h) (Or.inl ⟨by rfl, ?_⟩) hHeld ?_
          rotate_left
          · (intro wq hSw; (try dsimp only at hSw); go_simp; try with_reducible rfl)
          try simp only [Act.put, List.setIfInBounds_toArray, List.set_cons_zero, List.set_cons_succ]
          refine wpAnyH_ready (rs := [10]) (by kernel_rfl) (by simp) ?_
          refine AllReadyH.cons (o := { dst := some 35, op := Op.call { callee := Callee.value (Operand.func 9), args := #[Operand.tmp 34], argTypes := #[23] }, type := 3, pos := "law.go:65", after := #[{ on := 9, ground := Ground.data }, { on := 8, ground := Ground.chain }, { on := 8, ground := Ground.guard }], guard := some (8, false) }) rfl (fun K hK => ?_) AllReadyH.nil
          go_simp
          refine (HTL.out).mono ?_
          rintro e u3 ⟨rfl, hu⟩
          obtain rfl : u2 = u3 := hu.symm
          refine hK.out _ _ (HELDOF.out _ HU.out) (fun hHeld => ?_)
          clear hK K
          try simp only [Act.put, List.setIfInBounds_toArray, List.set_cons_zero, List.set_cons_succ]
          refine wpAnyH_take (i := 16) (oi := { dst := some 41, op := Op.binOp BinOp.neq 3 (Operand.tmp 35) (Operand.tmp 40) 3, type := 4, pos := "law.go:65", after := #[{ on := 10, ground := Ground.data }, { on := 15, ground := Ground.data }, { on := 8, ground := Ground.guard }], guard := some (8, false) }) (v := ?_) rfl (by kernel_rfl) (by kernel_rfl) (by kernel_rfl) (fun _ _ _ h => h) (Or.inl ⟨by rfl, ?_⟩) hHeld ?_
          rotate_left
          · (intro wq hSw; (try dsimp only at hSw); go_simp; try with_reducible rfl)
          try simp only [Act.put, List.setIfInBounds_toArray, List.set_cons_zero, List.set_cons_succ]
          refine wpAnyH_take (i := 17) (oi := { dst := some 42, op := Op.pick (Operand.tmp 33) (Operand.const (Value.bool true)) (Operand.tmp 41), type := 4, pos := "law.go:65", after := #[{ on := 8, ground := Ground.data }, { on := 16, ground := Ground.data }], guard := none }) (v := ?_) rfl (by kernel_rfl) (by kernel_rfl) (by kernel_rfl) (fun _ _ _ h => h) (Or.inl ⟨by rfl, ?_⟩) hHeld ?_
          rotate_left
          · (intro wq hSw; (try dsimp only at hSw); go_simp; try with_reducible rfl)
          try simp only [Act.put, List.setIfInBounds_toArray, List.set_cons_zero, List.set_cons_succ]
          refine wpAnyH_take (i := 18) (oi := { dst := some 43, op := Op.move (Operand.tmp 42), type := 4, pos := "law.go:65", after := #[{ on := 17, ground := Ground.data }, { on := 10, ground := Ground.chain }], guard := none }) (v := ?_) rfl (by kernel_rfl) (by kernel_rfl) (by kernel_rfl) (fun _ _ _ h => h) (Or.inl ⟨by rfl, ?_⟩) hHeld ?_
          rotate_left
          · (intro wq hSw; (try dsimp only at hSw); go_simp; try with_reducible rfl)
          try simp only [Act.put, List.setIfInBounds_toArray, List.set_cons_zero, List.set_cons_succ]
          refine wpAnyH_take (i := 19) (oi := { dst := some 44, op := Op.move (Operand.tmp 3), type := 23, pos := "law.go:65", after := #[{ on := 18, ground := Ground.guard }], guard := some (18, false) }) (v := ?_) rfl (by kernel_rfl) (by kernel_rfl) (by kernel_rfl) (fun _ _ _ h => h) (Or.inl ⟨by rfl, ?_⟩) hHeld ?_
          rotate_left
          · (intro wq hSw; (try dsimp only at hSw); go_simp; try with_reducible rfl)
          try simp only [Act.put, List.setIfInBounds_toArray, List.set_cons_zero, List.set_cons_succ]
          refine wpAnyH_take (i := 20) (oi := { dst := some 45, op := Op.move (Operand.tmp 0), type := 22, pos := "law.go:65", after := #[{ on := 18, ground := Ground.guard }], guard := some (18, false) }) (v := ?_) rfl (by kernel_rfl) (by kernel_rfl) (by kernel_rfl) (fun _ _ _ h => h) (Or.inl ⟨by rfl, ?_⟩) hHeld ?_
          rotate_left
          · (intro wq hSw; (try dsimp only at hSw); go_simp; try with_reducible rfl)
          try simp only [Act.put, List.setIfInBounds_toArray, List.set_cons_zero, List.set_cons_succ]
          refine wpAnyH_take (i := 21) (oi := { dst := some 46, op := Op.move (Operand.tmp 5), type := 3, pos := "law.go:65", after := #[{ on := 18, ground := Ground.guard }], guard := some (18, false) }) (v := ?_) rfl (by kernel_rfl) (by kernel_rfl) (by kernel_rfl) (fun _ _ _ h => h) (Or.inl ⟨by rfl, ?_⟩) hHeld ?_
          rotate_left
          · (intro wq hSw; (try dsimp only at hSw); go_simp; try with_reducible rfl)
          try simp only [Act.put, List.setIfInBounds_toArray, List.set_cons_zero, List.set_cons_succ]
          refine wpAnyH_take (i := 22) (oi := { dst := some 47, op := Op.indexAddr 22 (Operand.tmp 45) (Operand.tmp 46), type := 0, pos := "law.go:65", after := #[{ on := 20, ground := Ground.data }, { on := 21, ground := Ground.data }, { on := 18, ground := Ground.guard }], guard := some (18, false) }) (v := ?_) rfl (by kernel_rfl) (by kernel_rfl) (by kernel_rfl) (fun _ _ _ h => h) (Or.inl ⟨by rfl, ?_⟩) hHeld ?_
          rotate_left
          · (intro wq hSw; (try dsimp only at hSw); go_simp; try with_reducible rfl)
          try simp only [Act.put, List.setIfInBounds_toArray, List.set_cons_zero, List.set_cons_succ]
          refine wpAnyH_take (i := 23) (oi := { dst := some 48, op := Op.fieldAddr 34 (Operand.tmp 47) 2, type := 0, pos := "law.go:65", after := #[{ on := 22, ground := Ground.data }, { on := 18, ground := Ground.guard }], guard := some (18, false) }) (v := ?_) rfl (by kernel_rfl) (by kernel_rfl) (by kernel_rfl) (fun _ _ _ h => h) (Or.inl ⟨by rfl, ?_⟩) hHeld ?_
          rotate_left
          · (intro wq hSw; (try dsimp only at hSw); go_simp; try with_reducible rfl)
          try simp only [Act.put, List.setIfInBounds_toArray, List.set_cons_zero, List.set_cons_succ]
          refine wpAnyH_take (i := 24) (oi := { dst := some 49, op := Op.load 32 (Operand.tmp 48), type := 32, pos := "law.go:65", after := #[{ on := 23, ground := Ground.data }, { on := 18, ground := Ground.guard }], guard := some (18, false) }) (v := ?_) rfl (by kernel_rfl) (by kernel_rfl) (by kernel_rfl) (fun _ _ _ h => h) (Or.inl ⟨by rfl, ?_⟩) hHeld ?_
          rotate_left
          · (intro wq hSw; (try dsimp only at hSw); go_simp; try with_reducible rfl)
          try simp only [Act.put, List.setIfInBounds_toArray, List.set_cons_zero, List.set_cons_succ]
          refine wpAnyH_take (i := 26) (oi := { dst := some 51, op := Op.move (Operand.tmp 4), type := 25, pos := "law.go:65", after := #[{ on := 18, ground := Ground.guard }], guard := some (18, false) }) (v := ?_) rfl (by kernel_rfl) (by kernel_rfl) (by kernel_rfl) (fun _ _ _ h => h) (Or.inl ⟨by rfl, ?_⟩) hHeld ?_
          rotate_left
          · (intro wq hSw; (try dsimp only at hSw); go_simp; try with_reducible rfl)
          try simp only [Act.put, List.setIfInBounds_toArray, List.set_cons_zero, List.set_cons_succ]
          refine wpAnyH_take (i := 27) (oi := { dst := some 52, op := Op.move (Operand.tmp 0), type := 22, pos := "law.go:65", after := #[{ on := 18, ground := Ground.guard }], guard := some (18, false) }) (v := ?_) rfl (by kernel_rfl) (by kernel_rfl) (by kernel_rfl) (fun _ _ _ h => h) (Or.inl ⟨by rfl, ?_⟩) hHeld ?_
          rotate_left
          · (intro wq hSw; (try dsimp only at hSw); go_simp; try with_reducible rfl)
          try simp only [Act.put, List.setIfInBounds_toArray, List.set_cons_zero, List.set_cons_succ]
          refine wpAnyH_take (i := 28) (oi := { dst := some 53, op := Op.move (Operand.tmp 5), type := 3, pos := "law.go:65", after := #[{ on := 18, ground := Ground.guard }], guard := some (18, false) }) (v := ?_) rfl (by kernel_rfl) (by kernel_rfl) (by kernel_rfl) (fun _ _ _ h => h) (Or.inl ⟨by rfl, ?_⟩) hHeld ?_
          rotate_left
          · (intro wq hSw; (try dsimp only at hSw); go_simp; try with_reducible rfl)
          try simp only [Act.put, List.setIfInBounds_toArray, List.set_cons_zero, List.set_cons_succ]
          refine wpAnyH_take (i := 29) (oi := { dst := some 54, op := Op.indexAddr 22 (Operand.tmp 52) (Operand.tmp 53), type := 0, pos := "law.go:65", after := #[{ on := 27, ground := Ground.data }, { on := 28, ground := Ground.data }, { on := 18, ground := Ground.guard }], guard := some (18, false) }) (v := ?_) rfl (by kernel_rfl) (by kernel_rfl) (by kernel_rfl) (fun _ _ _ h => h) (Or.inl ⟨by rfl, ?_⟩) hHeld ?_
          rotate_left
          · (intro wq hSw; (try dsimp only at hSw); go_simp; try with_reducible rfl)
          try simp only [Act.put, List.setIfInBounds_toArray, List.set_cons_zero, List.set_cons_succ]
          refine wpAnyH_take (i := 30) (oi := { dst := some 55, op := Op.fieldAddr 34 (Operand.tmp 54) 2, type := 0, pos := "law.go:65", after := #[{ on := 29, ground := Ground.data }, { on := 18, ground := Ground.guard }], guard := some (18, false) }) (v := ?_) rfl (by kernel_rfl) (by kernel_rfl) (by kernel_rfl) (fun _ _ _ h => h) (Or.inl ⟨by rfl, ?_⟩) hHeld ?_
          rotate_left
          · (intro wq hSw; (try dsimp only at hSw); go_simp; try with_reducible rfl)
          try simp only [Act.put, List.setIfInBounds_toArray, List.set_cons_zero, List.set_cons_succ]
          refine wpAnyH_take (i := 31) (oi := { dst := some 56, op := Op.load 32 (Operand.tmp 55), type := 32, pos := "law.go:65", after := #[{ on := 30, ground := Ground.data }, { on := 18, ground := Ground.guard }], guard := some (18, false) }) (v := ?_) rfl (by kernel_rfl) (by kernel_rfl) (by kernel_rfl) (fun _ _ _ h => h) (Or.inl ⟨by rfl, ?_⟩) hHeld ?_
          rotate_left
          · (intro wq hSw; (try dsimp only at hSw); go_simp; try with_reducible rfl)
          try simp only [Act.put, List.setIfInBounds_toArray, List.set_cons_zero, List.set_cons_succ]
          refine wpAnyH_ready (rs := [25]) (by kernel_rfl) (by simp) ?_
          refine AllReadyH.cons (o := { dst := some 50, op := Op.call { callee := Callee.value (Operand.func 11), args := #[Operand.tmp 44, Operand.tmp 49], argTypes := #[23, 32] }, type := 37, pos := "law.go:65", after := #[{ on := 19, ground := Ground.data }, { on := 24, ground := Ground.data }, { on := 18, ground := Ground.chain }, { on := 18, ground := Ground.guard }], guard := some (18, false) }) rfl (fun K hK => ?_) AllReadyH.nil
          go_simp
          refine (HXP.out u2 HU.out).mono ?_
          rintro e u4 ⟨a4, c4, rfl, hn4, o4⟩
          have HU4 := Lib.hid o4
          have N4 := Lib.hid hn4
          clear hn4 o4
          refine hK.out _ _ (HELDOF.out _ HU4.out) (fun hHeld => ?_)
          clear hK K
          try simp only [Act.put, List.setIfInBounds_toArray, List.set_cons_zero, List.set_cons_succ]
          refine wpAnyH_ready (rs := [32]) (by kernel_rfl) (by simp) ?_
          refine AllReadyH.cons (o := { dst := some 57, op := Op.call { callee := Callee.value (Operand.func 12), args := #[Operand.tmp 51, Operand.tmp 56], argTypes := #[25, 32] }, type := 37, pos := "law.go:65", after := #[{ on := 26, ground := Ground.data }, { on := 31, ground := Ground.data }, { on := 25, ground := Ground.chain }, { on := 18, ground := Ground.guard }], guard := some (18, false) }) rfl (fun K hK => ?_) AllReadyH.nil
          go_simp
          refine (HXR.out u4 HU4.out).mono ?_
          rintro e u5 ⟨a5, c5, rfl, hn5, o5⟩
          have HU5 := Lib.hid (HU4.out.same o5)
          have N5 := Lib.hid hn5
          have N45 := Lib.hid (N4.out.later o5)
          clear hn5 o5
          refine hK.out _ _ (HELDOF.out _ HU5.out) (fun hHeld => ?_)
          clear hK K
          try simp only [Act.put, List.setIfInBounds_toArray, List.set_cons_zero, List.set_cons_succ]
          refine wpAnyH_ready (rs := [33]) (by kernel_rfl) (by simp) ?_
          refine AllReadyH.cons (o := { dst := some 58, op := Op.call { callee := Callee.value (Operand.func 10), args := #[Operand.tmp 50, Operand.tmp 57], argTypes := #[37, 37] }, type := 4, pos := "law.go:65", after := #[{ on := 25, ground := Ground.data }, { on := 32, ground := Ground.data }, { on := 32, ground := Ground.chain }, { on := 18, ground := Ground.guard }], guard := some (18, false) }) rfl (fun K hK => ?_) AllReadyH.nil
          go_simp
          refine (same_same xs HXL.out c4 c5 N45.out N5.out).mono ?_
          rintro e u6 ⟨rfl, o6⟩
          have HU6 := Lib.hid (HU5.out.same o6)
          clear o6
          refine hK.out _ _ (HELDOF.out _ HU6.out) (fun hHeld => ?_)
          clear hK K
          try simp only [Act.put, List.setIfInBounds_toArray, List.set_cons_zero, List.set_cons_succ]
          refine wpAnyH_take (i := 34) (oi := { dst := some 59, op := Op.unOp UnOp.not 4 (Operand.tmp 58), type := 4, pos := "law.go:65", after := #[{ on := 33, ground := Ground.data }, { on := 18, ground := Ground.guard }], guard := some (18, false) }) (v := ?_) rfl (by kernel_rfl) (by kernel_rfl) (by kernel_rfl) (fun _ _ _ h => h) (Or.inl ⟨by rfl, ?_⟩) hHeld ?_
          rotate_left
          · (intro wq hSw; (try dsimp only at hSw); go_simp; try with_reducible rfl)
          try simp only [Act.put, List.setIfInBounds_toArray, List.set_cons_zero, List.set_cons_succ]
          refine wpAnyH_take (i := 35) (oi := { dst := some 60, op := Op.pick (Operand.tmp 43) (Operand.const (Value.bool true)) (Operand.tmp 59), type := 4, pos := "law.go:65", after := #[{ on := 18, ground := Ground.data }, { on := 34, ground := Ground.data }], guard := none }) (v := ?_) rfl (by kernel_rfl) (by kernel_rfl) (by kernel_rfl) (fun _ _ _ h => h) (Or.inl ⟨by rfl, ?_⟩) hHeld ?_
          rotate_left
          · (intro wq hSw; (try dsimp only at hSw); go_simp; try with_reducible rfl)
          try simp only [Act.put, List.setIfInBounds_toArray, List.set_cons_zero, List.set_cons_succ]
          refine wpAnyH_take (i := 36) (oi := { dst := some 61, op := Op.move (Operand.tmp 60), type := 4, pos := "law.go:65", after := #[{ on := 35, ground := Ground.data }, { on := 33, ground := Ground.chain }], guard := none }) (v := ?_) rfl (by kernel_rfl) (by kernel_rfl) (by kernel_rfl) (fun _ _ _ h => h) (Or.inl ⟨by rfl, ?_⟩) hHeld ?_
          rotate_left
          · (intro wq hSw; (try dsimp only at hSw); go_simp; try with_reducible rfl)
          try simp only [Act.put, List.setIfInBounds_toArray, List.set_cons_zero, List.set_cons_succ]
          refine wpAnyH_take (i := 37) (oi := { dst := some 62, op := Op.move (Operand.tmp 3), type := 23, pos := "law.go:65", after := #[{ on := 36, ground := Ground.guard }], guard := some (36, false) }) (v := ?_) rfl (by kernel_rfl) (by kernel_rfl) (by kernel_rfl) (fun _ _ _ h => h) (Or.inl ⟨by rfl, ?_⟩) hHeld ?_
          rotate_left
          · (intro wq hSw; (try dsimp only at hSw); go_simp; try with_reducible rfl)
          try simp only [Act.put, List.setIfInBounds_toArray, List.set_cons_zero, List.set_cons_succ]
          refine wpAnyH_take (i := 38) (oi := { dst := some 63, op := Op.build 32 #[], type := 32, pos := "law.go:65", after := #[{ on := 36, ground := Ground.guard }], guard := some (36, false) }) (v := ?_) rfl (by kernel_rfl) (by kernel_rfl) (by kernel_rfl) (fun _ _ _ h => h) (Or.inl ⟨by rfl, ?_⟩) hHeld ?_
          rotate_left
          · (intro wq hSw; (try dsimp only at hSw); go_simp; try with_reducible rfl)
          try simp only [Act.put, List.setIfInBounds_toArray, List.set_cons_zero, List.set_cons_succ]
          refine wpAnyH_take (i := 40) (oi := { dst := some 65, op := Op.move (Operand.tmp 4), type := 25, pos := "law.go:65", after := #[{ on := 36, ground := Ground.guard }], guard := some (36, false) }) (v := ?_) rfl (by kernel_rfl) (by kernel_rfl) (by kernel_rfl) (fun _ _ _ h => h) (Or.inl ⟨by rfl, ?_⟩) hHeld ?_
          rotate_left
          · (intro wq hSw; (try dsimp only at hSw); go_simp; try with_reducible rfl)
          try simp only [Act.put, List.setIfInBounds_toArray, List.set_cons_zero, List.set_cons_succ]
          refine wpAnyH_take (i := 41) (oi := { dst := some 66, op := Op.build 32 #[], type := 32, pos := "law.go:65", after := #[{ on := 36, ground := Ground.guard }], guard := some (36, false) }) (v := ?_) rfl (by kernel_rfl) (by kernel_rfl) (by kernel_rfl) (fun _ _ _ h => h) (Or.inl ⟨by rfl, ?_⟩) hHeld ?_
          rotate_left
          · (intro wq hSw; (try dsimp only at hSw); go_simp; try with_reducible rfl)
          try simp only [Act.put, List.setIfInBounds_toArray, List.set_cons_zero, List.set_cons_succ]
          refine wpAnyH_ready (rs := [39]) (by kernel_rfl) (by simp) ?_
          refine AllReadyH.cons (o := { dst := some 64, op := Op.call { callee := Callee.value (Operand.func 11), args := #[Operand.tmp 62, Operand.tmp 63], argTypes := #[23, 32] }, type := 37, pos := "law.go:65", after := #[{ on := 37, ground := Ground.data }, { on := 38, ground := Ground.data }, { on := 36, ground := Ground.chain }, { on := 36, ground := Ground.guard }], guard := some (36, false) }) rfl (fun K hK => ?_) AllReadyH.nil
          go_simp
          refine (HYP.out u6 HU6.out).mono ?_
          rintro e u7 ⟨a7, c7, rfl, hn7, o7⟩
          have HU7 := Lib.hid (HU6.out.same o7)
          have N7 := Lib.hid hn7
          clear hn7 o7
          refine hK.out _ _ (HELDOF.out _ HU7.out) (fun hHeld => ?_)
          clear hK K
          try simp only [Act.put, List.setIfInBounds_toArray, List.set_cons_zero, List.set_cons_succ]
          refine wpAnyH_ready (rs := [42]) (by kernel_rfl) (by simp) ?_
          refine AllReadyH.cons (o := { dst := some 67, op := Op.call { callee := Callee.value (Operand.func 12), args := #[Operand.tmp 65, Operand.tmp 66], argTypes := #[25, 32] }, type := 37, pos := "law.go:65", after := #[{ on := 40, ground := Ground.data }, { on := 41, ground := Ground.data }, { on := 39, ground := Ground.chain }, { on := 36, ground := Ground.guard }], guard := some (36, false) }) rfl (fun K hK => ?_) AllReadyH.nil
          go_simp
          refine (HYR.out u7 HU7.out).mono ?_
          rintro e u8 ⟨a8, c8, rfl, hn8, o8⟩
          have HU8 := Lib.hid (HU7.out.same o8)
          have N8 := Lib.hid hn8
          have N78 := Lib.hid (N7.out.later o8)
          clear hn8 o8
          refine hK.out _ _ (HELDOF.out _ HU8.out) (fun hHeld => ?_)
          clear hK K
          try simp only [Act.put, List.setIfInBounds_toArray, List.set_cons_zero, List.set_cons_succ]
          refine wpAnyH_ready (rs := [43]) (by kernel_rfl) (by simp) ?_
          refine AllReadyH.cons (o := { dst := some 68, op := Op.call { callee := Callee.value (Operand.func 10), args := #[Operand.tmp 64, Operand.tmp 67], argTypes := #[37, 37] }, type := 4, pos := "law.go:65", after := #[{ on := 39, ground := Ground.data }, { on := 42, ground := Ground.data }, { on := 42, ground := Ground.chain }, { on := 36, ground := Ground.guard }], guard := some (36, false) }) rfl (fun K hK => ?_) AllReadyH.nil
          go_simp
          refine (same_same ys HYL.out c7 c8 N78.out N8.out).mono ?_
          rintro e u9 ⟨rfl, o9⟩
          have HU9 := Lib.hid (HU8.out.same o9)
          clear o9
          refine hK.out _ _ (HELDOF.out _ HU9.out) (fun hHeld => ?_)
          clear hK K
          try simp only [Act.put, List.setIfInBounds_toArray, List.set_cons_zero, List.set_cons_succ]
          refine wpAnyH_take (i := 44) (oi := { dst := some 69, op := Op.unOp UnOp.not 4 (Operand.tmp 68), type := 4, pos := "law.go:65", after := #[{ on := 43, ground := Ground.data }, { on := 36, ground := Ground.guard }], guard := some (36, false) }) (v := ?_) rfl (by kernel_rfl) (by kernel_rfl) (by kernel_rfl) (fun _ _ _ h => h) (Or.inl ⟨by rfl, ?_⟩) hHeld ?_
          rotate_left
          · (intro wq hSw; (try dsimp only at hSw); go_simp; try with_reducible rfl)
          try simp only [Act.put, List.setIfInBounds_toArray, List.set_cons_zero, List.set_cons_succ]
          refine wpAnyH_take (i := 45) (oi := { dst := some 70, op := Op.pick (Operand.tmp 61) (Operand.const (Value.bool true)) (Operand.tmp 69), type := 4, pos := "law.go:65", after := #[{ on := 36, ground := Ground.data }, { on := 44, ground := Ground.data }], guard := none }) (v := ?_) rfl (by kernel_rfl) (by kernel_rfl) (by kernel_rfl) (fun _ _ _ h => h) (Or.inl ⟨by rfl, ?_⟩) hHeld ?_
          rotate_left
          · (intro wq hSw; (try dsimp only at hSw); go_simp; try with_reducible rfl)
          try simp only [Act.put, List.setIfInBounds_toArray, List.set_cons_zero, List.set_cons_succ]
          refine wpAnyH_done (by kernel_rfl) ?_ _
          go_wp2_with fail
          go_meet
          exact ⟨rfl, Lib.hid ⟨s2, M2, S2.out.later HU9.out⟩⟩
        case rest =>
          obtain ⟨rfl, hC⟩ := hcut
          obtain ⟨s2, M2, hS⟩ := hC.out
          have HS9 := Lib.hid hS
          clear hC hS
          go_wp2_with fail
          go_roundw
          case rel => exact ⟨j + 1, s2, M2, by go_num, by omega, by omega, HS9⟩
          case measure => simp [RowKit.intOf]; omega
      · have j2 : ¬ (j : Int) < 60 := by omega
        have HFIN := Lib.hid hI.out.o
        clear hI
        go_wp2_with fail
        go_ret
        exact ⟨rfl, HFIN.out.to_below⟩
    · have j1 : ¬ (j : Int) < (q.length : Int) := by omega
      have HFIN := Lib.hid hI.out.o
      clear hI
      go_wp2_with fail
      go_ret
      exact ⟨rfl, HFIN.out.to_below⟩
end Go.Proofs.Ythgjedcelcanbaa.idx
