/- Tokens: single signs, names, numbers. -/
import Derived.Test.YtogccafnfpmgmaaDoorTokC
import Derived.Laws.BytesString
import Derived.Laws.Cells
namespace Go.Proofs.YtogccafnfpmgmaaDoor.toks
open Go.RowKit Go.Proofs.YtogccafnfpmgmaaDoor.own
abbrev bstr (l : List UInt8) : ByteArray := ⟨l.toArray⟩
theorem fold_bytes (l : List UInt8) : ∀ s : ByteArray, (l.map iv).foldl (fun r n => r.push (UInt8.ofNat n.toNat)) s = ⟨s.data ++ l.toArray⟩ := by
  induction l with
  | nil => intro s; cases s; simp
  | cons x r ih =>
    intro s
    rw [List.map_cons, List.foldl_cons, ih]
    have e : UInt8.ofNat (iv x).toNat = x := by unfold iv; simp
    rw [e]
    cases s
    simp [ByteArray.push]
theorem run_bytes (W : World) (b off c : Nat) (l : List UInt8) (h : ∀ k x, l[k]? = some x → W.cell? ⟨b, off + k, none⟩ = some (.int .u8 (iv x))) : (convert 22 9 (.slice (some ⟨b, off, none⟩) l.length c)).run Tryd.prog W = .ok (.string (bstr l)) W := by
  rw [run_convert_bytes_string W 22 9 5 _ _ _ Tryd.underlying22 Tryd.underlying5 Tryd.underlying9]
  have hl := run_loadCells_list (P := Tryd.prog) (w := W) ⟨b, off, none⟩ (l.map (fun x => Value.int .u8 (iv x))) (by
    intro j v hj
    rw [List.getElem?_map] at hj
    cases hx : l[j]? with
    | none => rw [hx] at hj; cases hj
    | some x =>
      rw [hx] at hj
      have e : (⟨b, off, none⟩ : Addr).add j = ⟨b, off + j, none⟩ := by unfold Addr.add; split <;> simp_all
      rw [e, h j x hx]
      exact hj)
  rw [List.length_map] at hl
  have e2 : l.map (fun x => Value.int .u8 (iv x)) = (l.map iv).map (Value.int .u8) := by rw [List.map_map]; rfl
  rw [run_bytesToString W ⟨b, off, none⟩ l.length c (l.map iv) (by rw [hl, e2])]
  rw [fold_bytes]
  simp [ByteArray.empty, ByteArray.emptyWithCapacity]
  try rfl
/-- What is read where a token begins: kind, text, number, how many bytes; or why there is none. -/
inductive TR where
  | ok (kd : Int) (s : List UInt8) (n : Int) (len : Nat)
  | no (e : Int)
abbrev tokV (kd : Int) (s : ByteArray) (n at_ : Int) (lay : Bool) : Value := .agg #[.int .i64 kd, .string s, .int .i64 n, .int .i64 at_, .bool lay]
def ansR (i : Nat) : TR → Value
  | .ok kd s n len => .tuple #[tokV kd (bstr s) n 0 false, .int .i64 (i + len : Nat), .int .i64 0]
  | .no e => .tuple #[tokV 0 ⟨#[]⟩ 0 0 false, .int .i64 i, .int .i64 e]
def nameF (kd : Int) (g : Int → Bool) (r : List UInt8) : TR := if 64 < rowN g r then .no 3 else .ok kd (r.take (rowN g r)) 0 (rowN g r)
theorem results_cell_tmp2 {fn : Func} {p u v : Tmp} {ty : TypeId} (h : fn.results = #[.cell p ty, .tmp u, .tmp v]) (tmps : Array Value) (P : Program) (w : World) :
    (results fn tmps).run P w =
      ((asAddr (tmps.getD p undef)).run P w).andThen fun a w₁ => ((loadVar ty a).run P w₁).andThen fun x w₂ => .ok (.tuple #[x, tmps.getD u undef, tmps.getD v undef]) w₂ := by
  simp only [results, h]
  simp [Sem.run_bind, Result.andThen]
theorem results_tok {fn : Func} {p u v : Tmp} (h : fn.results = #[.cell p 30, .tmp u, .tmp v]) (tmps : Array Value) (w : World) (b : Nat) (x0 x1 x2 x3 x4 x5 x6 : Value) (ha : tmps.getD p undef = .pointer (some ⟨b, 0, none⟩)) (hu : tmps.getD u undef = x5) (hv : tmps.getD v undef = x6) (hb : w.heap[b]? = some (.cells #[x0, x1, x2, x3, x4] 30 (0, 0))) :
    (results fn tmps).run Tryd.prog w = .ok (.tuple #[.agg #[x0, x1, x2, x3, x4], x5, x6]) w := by
  have c0 := cell_of_blk hb 0
  have c1 := cell_of_blk hb 1
  have c2 := cell_of_blk hb 2
  have c3 := cell_of_blk hb 3
  have c4 := cell_of_blk hb 4
  simp only [List.getElem?_toArray, List.getElem?_cons_zero, List.getElem?_cons_succ] at c0 c1 c2 c3 c4
  rw [results_cell_tmp2 h, ha, hu, hv]
  go_simp
set_option maxRecDepth 100000 in
set_option maxHeartbeats 2000000 in
theorem single_any (kd : Int) (ao : Option Addr) (cap : Nat) (bs : List UInt8) (i : Nat) (x : UInt8) (w : World) (hb : Byts ao bs w) (hx : bs[i]? = some x) (hl : bs.length ≤ 1000000) (hc : bs.length ≤ cap) :
    Calls Tryd.prog 44 #[.int .i64 kd, .slice ao bs.length cap, .int .i64 i] w fun e w' => e = .returned (ansR i (.ok kd [x] 0 1)) ∧ Only (fun _ => False) w w' := by
  have hlt := (List.getElem?_eq_some_iff.1 hx).1
  have hw1 : wrap64 ((i : Int) + 1) = (i : Int) + 1 := by unfold wrap64; omega
  obtain ⟨b, off, rfl, hb1, c0⟩ := hb i x hx
  have q0 : (0 : Int) ≤ (i : Int) := by omega
  have q1 : (i : Int) + 1 ≤ (bs.length : Int) := by omega
  have ho : ∀ o : Obj, Only (fun _ => False) w (w.alloc o) := fun o => Only.alloc _ _ _
  have hcv : ∀ c o, (convert 22 9 (.slice (some ⟨b, off + i, none⟩) 1 c)).run Tryd.prog (w.alloc o) = .ok (.string (bstr [x])) (w.alloc o) := fun c o => run_bytes (w.alloc o) b (off + i) c [x] (fun k y hy => by
    have hk : k = 0 := by
      have := (List.getElem?_eq_some_iff.1 hy).1
      simp at this
      omega
    subst hk
    cases hy
    exact ((ho o).cell (p := ⟨b, off + i, none⟩) hb1 (fun e => e)).trans c0)
  clear hx hb
  go_enter Tryd.func44, Tryd.ntmps44
  go_wp2_with fail
  refine bodyPost_ret (v := .tuple #[tokV kd (bstr [x]) 0 0 false, .int .i64 (i + 1 : Nat), .int .i64 0]) (results_tok rfl _ _ w.heap.size _ _ _ _ _ _ _ rfl rfl rfl (heap_alloc_new w _)) rfl ?_
  exact ⟨rfl, Only.alloc _ _ _⟩
end Go.Proofs.YtogccafnfpmgmaaDoor.toks
