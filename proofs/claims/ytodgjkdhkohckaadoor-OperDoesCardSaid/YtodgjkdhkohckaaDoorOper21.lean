/- Operators: what must come of every program: the numbers. -/
import Derived.Test.YtodgjkdhkohckaaDoorOper20
namespace Go.Proofs.YtodgjkdhkohckaaDoor.opers
open Go.RowKit Go.Proofs.YtodgjkdhkohckaaDoor.own Go.Maps Go.Sort Go.Shelf Go.Proofs.YtodgjkdhkohckaaDoor.toks
abbrev sPlus : ByteArray := ⟨#[43]⟩
abbrev sMinus : ByteArray := ⟨#[45]⟩
abbrev sPow : ByteArray := ⟨#[42, 42]⟩
abbrev sComma : ByteArray := ⟨#[44]⟩
abbrev sMod : ByteArray := ⟨#[109, 111, 100]⟩
abbrev sFoo : ByteArray := ⟨#[102, 111, 111]⟩
theorem e_plus : Maps.has Di0 (keyN sPlus) = true ∧ Di0.atKey (keyN sPlus) zeroD = opD 500 3 sPlus := ⟨by kernel_rfl, by kernel_rfl⟩
theorem e_minus : Maps.has Dp0 (keyN sMinus) = true ∧ Dp0.atKey (keyN sMinus) zeroD = opD 200 4 sMinus := ⟨by kernel_rfl, by kernel_rfl⟩
theorem e_set1 : setE Di0 Dp0 300 2 sPow = 0 := by kernel_rfl
def Di1 : D1 := Di0.put (keyN sPow) (opD 300 2 sPow)
theorem e_set1I : setI Di0 Dp0 300 2 sPow = Di1 := by unfold setI; rw [if_pos e_set1]; kernel_rfl
theorem e_set1P : setP Di0 Dp0 300 2 sPow = Dp0 := by unfold setP; rw [if_pos e_set1]; kernel_rfl
theorem e_set2 : setE Di1 Dp0 300 2 sComma = 90 := by kernel_rfl
theorem e_pow : Maps.has Di1 (keyN sPow) = true ∧ Di1.atKey (keyN sPow) zeroD = opD 300 2 sPow := ⟨by kernel_rfl, by kernel_rfl⟩
theorem e_mod : (Maps.has Di1 (keyN sMod) || Maps.has Dp0 (keyN sMod)) = true := by kernel_rfl
theorem e_foo : (Maps.has Di1 (keyN sFoo) || Maps.has Dp0 (keyN sFoo)) = false := by kernel_rfl
theorem e_size : Maps.size Di1 = 29 ∧ Maps.size Dp0 = 3 := ⟨by kernel_rfl, by kernel_rfl⟩
theorem e_left : leftF 500 3 = 500 ∧ rightF 500 3 = 499 := ⟨by kernel_rfl, by kernel_rfl⟩
theorem opD_inj {p k p' k' : Int} {n n' : ByteArray} (h : opD p k n = opD p' k' n') : p = p' ∧ k = k' ∧ n = n' := by
  unfold opD at h
  simp at h
  obtain ⟨h1, h2, h3⟩ := h
  refine ⟨h1, h2, ?_⟩
  cases n with
  | mk d =>
    cases n' with
    | mk d' =>
      have e : d = d' := by first | exact h3 | exact Array.toList_inj.1 h3
      rw [e]
theorem infix_at {b mi mp ni np : Nat} {Di Dp : D1} {w : World} (h : Tb b mi mp ni np Di Dp w) (s : ByteArray) (hs : s.size ≤ maxLen) (p k : Int) (x : ByteArray) (hy : Maps.has Di (keyN s) = true ∧ Di.atKey (keyN s) zeroD = opD p k x) : Calls Tryd.prog 25 #[.pointer (some ⟨b, 0, none⟩), .string s] w fun e w' => e = .returned (.tuple #[.agg #[.int .i64 p, .int .i64 k, .string x], .bool true]) ∧ Only (fun _ => False) w w' := by
  refine (infix_any h s hs).mono ?_
  rintro e w' ⟨⟨p', k', x', rfl, hd⟩, ho⟩
  rw [hy.2] at hd
  obtain ⟨rfl, rfl, rfl⟩ := opD_inj hd
  rw [hy.1]
  exact ⟨rfl, ho⟩
theorem prefix_at {b mi mp ni np : Nat} {Di Dp : D1} {w : World} (h : Tb b mi mp ni np Di Dp w) (s : ByteArray) (hs : s.size ≤ maxLen) (p k : Int) (x : ByteArray) (hy : Maps.has Dp (keyN s) = true ∧ Dp.atKey (keyN s) zeroD = opD p k x) : Calls Tryd.prog 26 #[.pointer (some ⟨b, 0, none⟩), .string s] w fun e w' => e = .returned (.tuple #[.agg #[.int .i64 p, .int .i64 k, .string x], .bool true]) ∧ Only (fun _ => False) w w' := by
  refine (prefix_any h s hs).mono ?_
  rintro e w' ⟨⟨p', k', x', rfl, hd⟩, ho⟩
  rw [hy.2] at hd
  obtain ⟨rfl, rfl, rfl⟩ := opD_inj hd
  rw [hy.1]
  exact ⟨rfl, ho⟩
theorem valsOf_len {D : D1} {xs : List Op3} (hv : ValsOf D xs) : xs.length = Maps.size D := by
  obtain ⟨ps, hp, _, rfl⟩ := hv
  rw [List.length_map, ← List.length_map (f := (·.1)), hp.1.length_eq]
  cases D <;> simp [strKeys, Maps.size]
theorem allIs_len {Di Dp : D1} {xs : List Op3} (h : AllIs Di Dp xs) : xs.length = Maps.size Di + Maps.size Dp := by
  obtain ⟨⟨xi, xp, h1, h2, h3⟩, _⟩ := h
  rw [← h3.length_eq, List.length_append, valsOf_len h1, valsOf_len h2]
theorem OpAt.turned {b mi mp ni np bx : Nat} {Di Dp : D1} {W W' : World} {p k : Int} {n : ByteArray} (h : OpAt bx p k n W) (ht : Tb b mi mp ni np Di Dp W) (ho : Only (fun q => q = mi ∨ q = mp) W W') : OpAt bx p k n W' := by
  have h1 := map_ne ht.i h
  have h2 := map_ne ht.p h
  unfold OpAt
  rw [ho.block bx (lt_of_block h) (fun e => by rcases e with e | e <;> omega)]
  exact h
end Go.Proofs.YtodgjkdhkohckaaDoor.opers
