/- Tokens: what must come of every program. -/
import Derived.Lib.SlBytesConst
import Derived.Test.YtogccafnfpmgmaaDoorTokO
namespace Go.Proofs.YtogccafnfpmgmaaDoor.toks
open Go.RowKit Go.Proofs.YtogccafnfpmgmaaDoor.own
theorem Byts.new (l : List UInt8) (w : World) (t : TypeId) (fr : Nat × Nat) : Byts (some ⟨w.heap.size, 0, none⟩) l (w.alloc (.cells (l.map (fun x => Value.int .u8 (iv x))).toArray t fr)) := fun i x hx => by
  refine ⟨w.heap.size, 0, rfl, by simp, ?_⟩
  have h := heap_alloc_new w (.cells (l.map (fun x => Value.int .u8 (iv x))).toArray t fr)
  unfold World.cell?
  simp only [h]
  simp [hx]
def tx1 : List UInt8 := [102, 111, 111, 40, 88, 44, 32, 39, 97, 32, 98, 39, 41, 46]
def tl1 : List Tk := [⟨1, [102, 111, 111], 0, 0, false⟩, ⟨5, [40], 0, 3, false⟩, ⟨3, [88], 0, 4, false⟩, ⟨5, [44], 0, 5, false⟩, ⟨2, [97, 32, 98], 0, 7, true⟩, ⟨5, [41], 0, 12, false⟩, ⟨6, [46], 0, 13, false⟩]
theorem all_tx1 : allF tx1 = .ok tl1 14 := by kernel_rfl
theorem scan_1 : scanF [32, 37, 120, 10, 32, 49, 50] 0 = .ok 4 [] 12 5 true 7 := by kernel_rfl
theorem scan_2 : scanF [47, 42, 32] 0 = .no 0 80 := by kernel_rfl
theorem scan_3 : scanF [32, 32] 1 = .no 2 4 := by kernel_rfl
theorem quote_1 : quoteT [97, 39, 98] = [39, 97, 92, 39, 98, 39] := by kernel_rfl
theorem quote_2 : quoteT [97, 98] = [97, 98] := by kernel_rfl
theorem plain_1 : plainB ⟨#[43]⟩ = true := by kernel_rfl
theorem plain_2 : plainB ⟨#[46]⟩ = false := by kernel_rfl
abbrev rowU (l : List UInt8) : Obj := .cells (l.map (fun x => Value.int .u8 (iv x))).toArray 5 (l.length, l.length + 1)
abbrev row1 : Obj := .cells #[.int .u8 102, .int .u8 111, .int .u8 111, .int .u8 40, .int .u8 88, .int .u8 44, .int .u8 32, .int .u8 39, .int .u8 97, .int .u8 32, .int .u8 98, .int .u8 39, .int .u8 41, .int .u8 46] 5 (14, 15)
theorem scan_new (l : List UInt8) (i : Nat) (W : World) (h1 : i ≤ l.length) (h2 : l.length ≤ 65536) : Calls Tryd.prog 15 #[.slice (some ⟨W.heap.size, 0, none⟩) l.length l.length, .int .i64 i] (W.alloc (rowU l)) fun e w' => e = .returned (ansS (scanF l i)) ∧ Only (fun _ => False) W w' :=
  (scan_any (some ⟨W.heap.size, 0, none⟩) l.length l i _ (Byts.new l W 5 _) h1 h2 (Nat.le_refl _)).mono (fun e w' h => ⟨h.1, (Only.alloc _ W _).same h.2⟩)
theorem alloc_size (w : World) (o : Obj) : (w.alloc o).heap.size = w.heap.size + 1 := by simp
theorem conv_new (W : World) (C : Array Value) (n c : Nat) : (convert 22 22 (.slice (some ⟨W.heap.size, 0, none⟩) n c)).run Tryd.prog (W.alloc (.cells C 5)) = .ok (.slice (some ⟨W.heap.size, 0, none⟩) n c) (W.alloc (.cells C 5 (C.size, C.size + 1))) :=
  Lib.run_convert_bytes_const (P := Tryd.prog) W 22 5 C n c Tryd.underlying22 Tryd.underlying5
theorem conv_next (W : World) (o : Obj) (C : Array Value) (n c : Nat) : (convert 22 22 (.slice (some ⟨W.heap.size + 1, 0, none⟩) n c)).run Tryd.prog ((W.alloc o).alloc (.cells C 5)) = .ok (.slice (some ⟨W.heap.size + 1, 0, none⟩) n c) ((W.alloc o).alloc (.cells C 5 (C.size, C.size + 1))) := by
  have h := conv_new (W.alloc o) C n c
  rw [alloc_size] at h
  exact h
set_option maxRecDepth 100000 in
set_option maxHeartbeats 8000000 in
theorem lives_any (w : World) (hT : Tabled w) : Calls Tryd.prog 7 #[] w fun e w' => e = .returned (.bool true) ∧ Only (fun _ => False) w w' := by
  have HT := Lib.hid hT
  clear hT
  have hA0 := all_any (some ⟨w.heap.size, 0, none⟩) 14 tx1 _ (Byts.new tx1 w 5 (14, 15)) (by decide) (by decide)
  rw [all_tx1] at hA0
  have HA : Hid (Calls Tryd.prog 8 #[.slice (some ⟨w.heap.size, 0, none⟩) 14 14] (w.alloc row1) fun e w' => AllIs (w.alloc row1).heap.size e w' (.ok tl1 14) ∧ Only (fun _ => False) (w.alloc row1) w') := Lib.hid hA0
  have HO0 := Lib.hid (Only.alloc (fun _ => False) w row1)
  have h1 : Hid (∀ W : World, Calls Tryd.prog 15 #[.slice (some ⟨W.heap.size, 0, none⟩) 7 7, .int .i64 0] (W.alloc (.cells #[.int .u8 32, .int .u8 37, .int .u8 120, .int .u8 10, .int .u8 32, .int .u8 49, .int .u8 50] 5 (7, 8))) fun e w' => e = .returned (.tuple #[tokV 4 (bstr []) 12 5 true, .int .i64 7, .int .i64 0]) ∧ Only (fun _ => False) W w') := Lib.hid (fun W => by
    have h := scan_new [32, 37, 120, 10, 32, 49, 50] 0 W (by decide) (by decide)
    rw [scan_1] at h
    exact h)
  have h2 : Hid (∀ (W : World) (o : Obj), Calls Tryd.prog 15 #[.slice (some ⟨W.heap.size + 1, 0, none⟩) 3 3, .int .i64 0] ((W.alloc o).alloc (.cells #[.int .u8 47, .int .u8 42, .int .u8 32] 5 (3, 4))) fun e w' => e = .returned (.tuple #[tokV 0 ⟨#[]⟩ 0 0 false, .int .i64 0, .int .i64 80]) ∧ Only (fun _ => False) (W.alloc o) w') := Lib.hid (fun W o => by
    have h := scan_new [47, 42, 32] 0 (W.alloc o) (by decide) (by decide)
    rw [scan_2, alloc_size] at h
    exact h)
  have h3 : Hid (∀ (W : World) (o : Obj), Calls Tryd.prog 15 #[.slice (some ⟨W.heap.size + 1, 0, none⟩) 2 2, .int .i64 1] ((W.alloc o).alloc (.cells #[.int .u8 32, .int .u8 32] 5 (2, 3))) fun e w' => e = .returned (.tuple #[tokV 0 ⟨#[]⟩ 0 0 false, .int .i64 2, .int .i64 4]) ∧ Only (fun _ => False) (W.alloc o) w') := Lib.hid (fun W o => by
    have h := scan_new [32, 32] 1 (W.alloc o) (by decide) (by decide)
    rw [scan_3, alloc_size] at h
    exact h)
  have kc := conv_new
  have kn := conv_next
  go_enter Tryd.func7, Tryd.ntmps7
  go_wp2_with fail
  refine HA.out.mono ?_
  rintro e w1 ⟨⟨ro, rc, rfl, hrow, hlen⟩, ho1⟩
  have HR1 := Lib.hid hrow
  have HO1 := Lib.hid (HO0.out.same ho1)
  clear hrow ho1 HA HO0 hlen
  go_wp2_with fail
  refine (h1.out w1).mono ?_
  rintro e w2 ⟨rfl, ho2⟩
  have HO2 := Lib.hid ho2
  clear ho2
  go_wp2_with fail
  go_wp2_with fail
  refine (h2.out w2 _).mono ?_
  rintro e w3 ⟨rfl, ho3⟩
  have HO3 := Lib.hid ho3
  clear ho3
  go_wp2_with fail
  refine (h3.out w3 _).mono ?_
  rintro e w4 ⟨rfl, ho4⟩
  have HO4 := Lib.hid ho4
  clear ho4
  have HO5 : Hid (Only (fun _ => False) w1 (w4.alloc (.cells #[.int .i64 0, .string ⟨#[]⟩, .int .i64 0, .int .i64 0, .bool false] 30))) := Lib.hid ((HO2.out.same (Only.alloc _ _ _)).same (HO3.out.same ((Only.alloc _ _ _).same (HO4.out.same (Only.alloc _ _ _)))))
  have HOW := Lib.hid (HO1.out.same HO5.out)
  have hbx : (w4.alloc (.cells #[.int .i64 0, .string ⟨#[]⟩, .int .i64 0, .int .i64 0, .bool false] 30)).heap[w2.heap.size]? = some (.cells #[.int .i64 4, .string (bstr []), .int .i64 12, .int .i64 5, .bool true] 30 (0, 0)) := by
    have hs3 := HO3.out.size
    have hs4 := HO4.out.size
    rw [alloc_size] at hs3 hs4
    rw [Below.heap_alloc _ _ _ (by omega), HO4.out.block _ (by rw [alloc_size]; omega) (fun e => e), Below.heap_alloc _ _ _ (by omega), HO3.out.block _ (by rw [alloc_size]; omega) (fun e => e)]
    exact heap_alloc_new w2 _
  obtain ⟨⟨t0, t1, t2, t3, t4⟩, _⟩ := tk_cells hbx
  have hrw := HR1.out.only HO5.out (fun _ _ e => e)
  obtain ⟨g, hg, _, hc4⟩ := hrw.at lieT 4 ⟨2, [97, 32, 98], 0, 7, true⟩ rfl
  obtain ⟨g', hg', _, hc1⟩ := hrw.at lieT 1 ⟨5, [40], 0, 3, false⟩ rfl
  subst hg
  cases hg'
  have c41 : (w4.alloc (.cells #[.int .i64 0, .string ⟨#[]⟩, .int .i64 0, .int .i64 0, .bool false] 30)).cell? ⟨g, 21, none⟩ = some (.string (bstr [97, 32, 98])) := (hc4 1 (by decide)).1
  have c44 : (w4.alloc (.cells #[.int .i64 0, .string ⟨#[]⟩, .int .i64 0, .int .i64 0, .bool false] 30)).cell? ⟨g, 24, none⟩ = some (.bool true) := (hc4 4 (by decide)).1
  have c14 : (w4.alloc (.cells #[.int .i64 0, .string ⟨#[]⟩, .int .i64 0, .int .i64 0, .bool false] 30)).cell? ⟨g, 9, none⟩ = some (.bool false) := (hc1 4 (by decide)).1
  clear hc4 hc1 hrw hbx
  go_wp2_with fail
  have HT5 := Lib.hid (HT.out.later HOW.out)
  have q1 := Quote_any [97, 39, 98] _ (by decide) HT5.out
  rw [quote_1] at q1
  refine Calls.mono q1 ?_
  rintro e w6 ⟨rfl, ho6⟩
  have HO6 := Lib.hid (HOW.out.same ho6)
  clear q1 ho6
  go_wp2_with fail
  have q2 := Quote_any [97, 98] w6 (by decide) (HT.out.later HO6.out)
  rw [quote_2] at q2
  refine Calls.mono q2 ?_
  rintro e w7 ⟨rfl, ho7⟩
  have HO7 := Lib.hid (HO6.out.same ho7)
  clear q2 ho7
  go_wp2_with fail
  have q3 := Plain_any ⟨#[43]⟩ w7
  rw [plain_1] at q3
  refine Calls.mono q3 ?_
  rintro e w8 ⟨rfl, ho8⟩
  have HO8 := Lib.hid (HO7.out.same ho8)
  clear q3 ho8
  go_wp2_with fail
  have q4 := Plain_any ⟨#[46]⟩ w8
  rw [plain_2] at q4
  refine Calls.mono q4 ?_
  rintro e w9 ⟨rfl, ho9⟩
  have HO9 := Lib.hid (HO8.out.same ho9)
  clear q4 ho9
  go_wp2_with fail
  go_ret
  exact ⟨rfl, HO9.out⟩
end Go.Proofs.YtogccafnfpmgmaaDoor.toks
