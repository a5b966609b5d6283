/- Operators: in a table each stands at its own name; what All answers is one list alone. Plain. -/
import Derived.Test.YtodgjkdhkohckaaDoorOper22
namespace Go.Proofs.YtodgjkdhkohckaaDoor.opers
open Go.RowKit Go.Proofs.YtodgjkdhkohckaaDoor.own Go.Maps Go.Sort Go.Shelf Go.Proofs.YtodgjkdhkohckaaDoor.toks
/-- Each operator stands at its name, and is of that kind. -/
def Fine (b : Bool) (D : D1) : Prop := IsMap D ∧ ∀ s : List UInt8, Maps.has D (.string s) = true → ∃ p k n, (∀ zd, D.atKey (.string s) zd = opD p k n) ∧ n.data.toList = s ∧ isPreF k = b
theorem Fine.empty (b : Bool) : Fine b (.map []) := ⟨isMap_empty, fun s h => by cases h⟩
theorem Fine.put {b : Bool} {D : D1} (h : Fine b D) (p k : Int) (n : ByteArray) (hk : isPreF k = b) : Fine b (D.put (keyN n) (opD p k n)) := by
  refine ⟨h.1.put _ _, fun s hs => ?_⟩
  by_cases e : (.string s : Lit) = keyN n
  · have es : n.data.toList = s := by
      unfold keyN at e
      exact (Lit.string.inj e).symm
    refine ⟨p, k, n, fun zd => ?_, es, hk⟩
    rw [e]
    exact atKey_put_same h.1 (keyN_key n) _ _
  · rw [has_put_other e] at hs
    obtain ⟨p', k', n', h1, h2, h3⟩ := h.2 s hs
    exact ⟨p', k', n', fun zd => by rw [atKey_put_other e]; exact h1 zd, h2, h3⟩
theorem Fine.del {b : Bool} {D : D1} (h : Fine b D) (n : ByteArray) : Fine b (D.del (keyN n)) := by
  refine ⟨h.1.del _, fun s hs => ?_⟩
  by_cases e : (.string s : Lit) = keyN n
  · rw [e, has_del_same] at hs
    cases hs
  · rw [has_del_other e] at hs
    obtain ⟨p', k', n', h1, h2, h3⟩ := h.2 s hs
    exact ⟨p', k', n', fun zd => by rw [atKey_del_other e]; exact h1 zd, h2, h3⟩
theorem Fine.puts {b : Bool} (p k : Int) (hk : isPreF k = b) : ∀ (ns : List ByteArray) (D : D1), Fine b D → Fine b (putsF p k ns D)
  | [], _, h => h
  | n :: r, _, h => Fine.puts p k hk r _ (h.put p k n hk)
theorem fine_Di0 : Fine false Di0 := by
  unfold Di0
  refine Fine.puts _ _ (by decide) _ _ ?_
  refine Fine.puts _ _ (by decide) _ _ ?_
  refine Fine.puts _ _ (by decide) _ _ ?_
  refine Fine.puts _ _ (by decide) _ _ ?_
  refine Fine.puts _ _ (by decide) _ _ ?_
  refine Fine.puts _ _ (by decide) _ _ ?_
  refine Fine.puts _ _ (by decide) _ _ ?_
  refine Fine.puts _ _ (by decide) _ _ ?_
  exact Fine.empty _
theorem fine_Dp0 : Fine true Dp0 := by
  unfold Dp0
  refine Fine.puts _ _ (by decide) _ _ ?_
  refine Fine.puts _ _ (by decide) _ _ ?_
  refine Fine.puts _ _ (by decide) _ _ ?_
  exact Fine.empty _
theorem Fine.new {b : Bool} {D : D1} (h : Fine b D) (p k : Int) (s : ByteArray) (hk : isPreF k = b) : Fine b (newD D p k s) := by
  unfold newD
  split
  · exact h.put p k s hk
  · exact h.del s
theorem fine_set {Di Dp : D1} (hi : Fine false Di) (hp : Fine true Dp) (p k : Int) (s : ByteArray) : Fine false (setI Di Dp p k s) ∧ Fine true (setP Di Dp p k s) := by
  unfold setI setP
  split
  · cases hk : isPreF k with
    | true => exact ⟨hi, hp.new p k s hk⟩
    | false => exact ⟨hi.new p k s hk, hp⟩
  · exact ⟨hi, hp⟩
/-- An operator out of what was read. -/
def decO : D1 → Op3
  | .agg [.lit (.int .i64 p), .lit (.int .i64 k), .lit (.string n)] => ⟨p, k, ⟨n.toArray⟩⟩
  | _ => default
theorem decO_opD (p k : Int) (n : ByteArray) : decO (opD p k n) = ⟨p, k, n⟩ := by
  cases n
  rfl
theorem vals_perm {D : D1} {xs : List Op3} (hv : ValsOf D xs) : xs.Perm ((strKeys D).map fun s => decO (D.atKey (.string s) zeroD)) := by
  obtain ⟨ps, hp, hat, rfl⟩ := hv
  have e : ps.map (·.2) = (ps.map (·.1)).map (fun s => decO (D.atKey (.string s) zeroD)) := by
    rw [List.map_map]
    refine List.map_congr_left fun p hpm => ?_
    rw [Function.comp_apply, hat p hpm zeroD, decO_opD]
  rw [e]
  exact hp.1.map _
theorem vals_fine {b : Bool} {D : D1} {xs : List Op3} (hf : Fine b D) (hv : ValsOf D xs) (x : Op3) (hx : x ∈ xs) : (∀ zd, D.atKey (keyN x.n) zd = opD x.p x.k x.n) ∧ isPreF x.k = b := by
  obtain ⟨ps, hp, hat, rfl⟩ := hv
  obtain ⟨p, hpm, rfl⟩ := List.mem_map.1 hx
  have h1 := hat p hpm
  obtain ⟨p', k', n', h2, h3, h4⟩ := hf.2 p.1 (has_true_of_atKey h1)
  have h5 := (h1 zeroD).symm.trans (h2 zeroD)
  obtain ⟨e1, e2, e3⟩ := opD_inj h5
  refine ⟨fun zd => ?_, by rw [e2]; exact h4⟩
  unfold keyN
  rw [e3, h3, h1 zd, e3]
theorem all_one {Di Dp : D1} (hi : Fine false Di) (hp : Fine true Dp) {xs : List Op3} (h : AllIs Di Dp xs) {x y : Op3} (hx : x ∈ xs) (hy : y ∈ xs) (hn : x.n = y.n) (hk : isPreF x.k = isPreF y.k) : x = y := by
  obtain ⟨⟨xi, xp, h1, h2, h3⟩, _⟩ := h
  have same : ∀ {D : D1}, (∀ zd, D.atKey (keyN x.n) zd = opD x.p x.k x.n) → (∀ zd, D.atKey (keyN y.n) zd = opD y.p y.k y.n) → x = y := fun a b => by
    have a0 := a zeroD
    rw [hn] at a0
    have e := a0.symm.trans (b zeroD)
    obtain ⟨e1, e2, e3⟩ := opD_inj e
    cases x; cases y
    simp only at e1 e2 hn
    rw [e1, e2, hn]
  rcases List.mem_append.1 (h3.mem_iff.2 hx) with a | a <;> rcases List.mem_append.1 (h3.mem_iff.2 hy) with b | b
  · exact same (vals_fine hi h1 x a).1 (vals_fine hi h1 y b).1
  · have q1 := (vals_fine hi h1 x a).2
    have q2 := (vals_fine hp h2 y b).2
    rw [q1, q2] at hk
    cases hk
  · have q1 := (vals_fine hp h2 x a).2
    have q2 := (vals_fine hi h1 y b).2
    rw [q1, q2] at hk
    cases hk
  · exact same (vals_fine hp h2 x a).1 (vals_fine hp h2 y b).1
theorem all_perm {Di Dp : D1} {xs ys : List Op3} (hx : AllIs Di Dp xs) (hy : AllIs Di Dp ys) : xs.Perm ys := by
  obtain ⟨⟨xi, xp, h1, h2, h3⟩, _⟩ := hx
  obtain ⟨⟨yi, yp, g1, g2, g3⟩, _⟩ := hy
  exact h3.symm.trans (((vals_perm h1).trans (vals_perm g1).symm).append ((vals_perm h2).trans (vals_perm g2).symm) |>.trans g3)
theorem all_same {Di Dp : D1} (hi : Fine false Di) (hp : Fine true Dp) {xs ys : List Op3} (hx : AllIs Di Dp xs) (hy : AllIs Di Dp ys) : xs = ys :=
  uniq_sorted ltO xs ys (all_perm hx hy) hx.2 hy.2 (fun a ha b hb h1 h2 => by
    obtain ⟨e1, e2⟩ := same_nk h1 h2
    exact all_one hi hp hx ha hb e1 (by rw [e2]))
end Go.Proofs.YtodgjkdhkohckaaDoor.opers
