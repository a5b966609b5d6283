/- Terms: what must come of every program. -/
import Derived.Test.YtdpbbcjlbnangaaTerm48
namespace Go.Proofs.Ytdpbbcjlbnangaa.terms
open Go.RowKit Go.Proofs.Ytdpbbcjlbnangaa.own Go.Maps
theorem int_plain (n : Int) (w : World) : Calls Try.prog 15 #[.int .i64 n] w fun e w' => e = .returned (.agg #[.int .i64 2, .int .i64 n, .string ⟨#[]⟩, .slice none 0 0]) ∧ Only (fun _ => False) w w' := int_any n w
theorem rint_plain (n : Int) (w : World) : Calls Try.prog 16 #[.int .i64 n] w fun e w' => e = .returned (.agg #[.int .i64 2, .int .i64 n, .string ⟨#[]⟩, .slice none 0 0]) ∧ Only (fun _ => False) w w' := rint_any n w
theorem c_comp {W : World} {b : Nat} {ts : List T} {ty : TypeId} {cs : Array Value} (s : ByteArray) (u : T) (hu : compF s ts = u) (hs : s.size ≤ maxLen) (hz : sizes ts ≤ 1000000) (hb : W.heap[b]? = some (.cells cs ty (0, 0))) (hcs : cs = ((ts.map (fun t => (⟨t, none, 0⟩ : It))).flatMap encIt).toArray) (hts : ∀ t ∈ ts, t.Sane ∧ t.l = []) :
    Calls Try.prog 19 #[.string s, .slice (some ⟨b, 0, none⟩) ts.length ts.length] W fun e w' => ∃ ao cap, e = .returned (tv u ao cap) ∧ Lies w' ao u.l ∧ Only (fun _ => False) W w' := by
  subst hu
  refine (Comp_any s ts W _ _ hs (Row.leaves hb hcs hts) hz).mono ?_
  rintro e w' ⟨ao, cap, h1, h2, _, h3⟩
  exact ⟨ao, cap, h1, h2.mono (fun q hq => hq.2), h3⟩
theorem c_rcomp {W : World} {b : Nat} {ts : List T} {ty : TypeId} {cs : Array Value} (s : ByteArray) (u : T) (hu : compF s ts = u) (hs : s.size ≤ maxLen) (hz : ts.length ≤ 1000000) (hb : W.heap[b]? = some (.cells cs ty (0, 0))) (hcs : cs = ((ts.map (fun t => (⟨t, none, 0⟩ : It))).flatMap encIt).toArray) (hts : ∀ t ∈ ts, t.Sane ∧ t.l = []) :
    Calls Try.prog 20 #[.string s, .slice (some ⟨b, 0, none⟩) ts.length ts.length] W fun e w' => ∃ ao cap, e = .returned (tv u ao cap) ∧ Lies w' ao u.l ∧ Only (fun _ => False) W w' := by
  subst hu
  refine (rComp_any s ts W _ _ hs (Row.leaves hb hcs hts) hz).mono ?_
  rintro e w' ⟨ao, cap, h1, h2, _, h3⟩
  exact ⟨ao, cap, h1, h2, h3⟩
theorem leaves_t : ∀ t ∈ [vT 7, vT 3, vT 7], t.Sane ∧ t.l = [] := by
  intro t ht
  simp only [List.mem_cons, List.not_mem_nil, or_false] at ht
  rcases ht with rfl | rfl | rfl <;> exact sane_v _ (by omega)
theorem leaves_u : ∀ t ∈ [vT 0, vT 1, vT 0], t.Sane ∧ t.l = [] := by
  intro t ht
  simp only [List.mem_cons, List.not_mem_nil, or_false] at ht
  rcases ht with rfl | rfl | rfl <;> exact sane_v _ (by omega)
theorem leaves_v : ∀ t ∈ [iT 5, vT 1, iT 5], t.Sane ∧ t.l = [] := by
  intro t ht
  simp only [List.mem_cons, List.not_mem_nil, or_false] at ht
  rcases ht with rfl | rfl | rfl
  · exact sane_i _ (by omega)
  · exact sane_v _ (by omega)
  · exact sane_i _ (by omega)
theorem leaves_l : ∀ t ∈ [iT 1, aT sA], t.Sane ∧ t.l = [] := by
  intro t ht
  simp only [List.mem_cons, List.not_mem_nil, or_false] at ht
  rcases ht with rfl | rfl
  · exact sane_i _ (by omega)
  · exact sane_a _ (by decide +kernel)
theorem leaves_5 : ∀ t ∈ [iT 5], t.Sane ∧ t.l = [] := by
  intro t ht
  rw [List.mem_singleton.1 ht]
  exact sane_i _ (by omega)
theorem c_rename {W : World} {ao : Option Addr} (cap : Nat) (h : Lies W ao tC.l) : Calls Try.prog 34 #[tv tC ao cap] W fun e w' => ∃ ao' cap', e = .returned (.tuple #[tv uC ao' cap', .int .i64 2]) ∧ Lies w' ao' uC.l ∧ Only (fun _ => False) W w' := by
  have h1 := Rename_ok tC W ao cap h sane_t ok_t
  rw [ren_t] at h1
  refine h1.mono ?_
  rintro e w' ⟨ao', cap', h1, h2, _, h3⟩
  exact ⟨ao', cap', h1, h2.mono (fun q hq => hq.2), h3⟩
theorem c_list {W : World} {b : Nat} {ty : TypeId} (hb : W.heap[b]? = some (.cells #[.int .i64 2, .int .i64 1, .string ⟨#[]⟩, .slice none 0 0, .int .i64 3, .int .i64 0, .string sA, .slice none 0 0] ty (0, 0))) :
    Calls Try.prog 21 #[.slice (some ⟨b, 0, none⟩) 2 2, .agg #[.int .i64 3, .int .i64 0, .string sN, .slice none 0 0]] W fun e w' => ∃ ao cap, e = .returned (tv lC ao cap) ∧ Lies w' ao lC.l ∧ lC.Sane ∧ Only (fun _ => False) W w' := by
  refine (List_any [iT 1, aT sA] (aT sN) W (some ⟨b, 0, none⟩) none 2 0 (Row.leaves hb (by rfl) leaves_l) (Row.nil _ _ _) (sane_a sN (by decide +kernel)).1 (by decide +kernel)).mono ?_
  rintro e w' ⟨ao, cap, h1, h2, h3, h4⟩
  exact ⟨ao, cap, h1, h2.mono (fun q hq => hq.2), h3, h4⟩
theorem c_items {W : World} {ao : Option Addr} (cap : Nat) (h : Lies W ao lC.l) (hs : lC.Sane) : Calls Try.prog 38 #[tv lC ao cap] W fun e w' => ∃ oo oc ao' cap', e = .returned (.tuple #[.slice oo 2 oc, .agg #[.int .i64 3, .int .i64 0, .string sN, .slice ao' 0 cap']]) ∧ Lies w' oo [iT 1, aT sA] ∧ Only (fun _ => False) W w' := by
  have h1 := Items_ok lC W ao cap h hs ok_l
  rw [items_l] at h1
  refine h1.mono ?_
  rintro e w' ⟨oo, oc, ao', cap', h1, h2, _, _, _, h3⟩
  exact ⟨oo, oc, ao', cap', h1, h2.mono (fun q hq => hq.2), h3⟩
theorem c_replace {W : World} {ao : Option Addr} {b : Nat} {ty : TypeId} (cap : Nat) (h : Lies W ao uC.l) (hb : W.heap[b]? = some (.cells #[.int .i64 2, .int .i64 5, .string ⟨#[]⟩, .slice none 0 0] ty (0, 0))) : Calls Try.prog 37 #[tv uC ao cap, .slice (some ⟨b, 0, none⟩) 1 1] W fun e w' => ∃ ao' cap', e = .returned (tv vC ao' cap') ∧ Row (Since W w') w' ao' vC.l ∧ Only (fun _ => False) W w' := by
  have h1 := Replace_ok (with_ := [iT 5]) (fun x hx => by rw [List.mem_singleton.1 hx]; exact ok_5) (by decide) (some ⟨b, 0, none⟩) 1 uC W ao cap h sane_u ok_u (Row.leaves hb (by rfl) leaves_5) rep_u2 (by rw [rep_u]; exact ok_v)
  rw [rep_u] at h1
  refine h1.mono ?_
  rintro e w' ⟨ao', cap', h1, h2, _, h3⟩
  exact ⟨ao', cap', h1, h2, h3⟩
theorem c_vars {W : World} {ao : Option Addr} (cap : Nat) (h : Lies W ao tC.l) : Calls Try.prog 28 #[tv tC ao cap] W fun e w' => ∃ g oc, e = .returned (.slice (some ⟨g, 0, none⟩) 2 oc) ∧ g < w'.heap.size ∧ w'.cell? ⟨g, 0, none⟩ = some (.int .i64 7) ∧ w'.cell? ⟨g, 1, none⟩ = some (.int .i64 3) ∧ Only (fun _ => False) W w' := by
  have h1 := Vars_ok tC W ao cap h sane_t ok_t
  rw [vars_t] at h1
  refine h1.mono ?_
  rintro e w' ⟨oo, oc, h1, h2, _, h3⟩
  obtain ⟨g, rfl, _, hc⟩ := h2.at liesI 0 7 rfl
  obtain ⟨g', hg', _, hc'⟩ := h2.at liesI 1 3 rfl
  cases hg'
  exact ⟨g, oc, h1, (h2.head _ rfl).2.2, (hc 0 (by omega)).1, (hc' 0 (by omega)).1, h3⟩
theorem c_exact {W : World} {t u : T} {ao bo : Option Addr} (cap bcap : Nat) (b : Bool) (he : t.eqb u = b) (hs : t.Sane) (hs' : u.Sane) (h : Lies W ao t.l) (h' : Lies W bo u.l) : Calls Try.prog 12 #[tv t ao cap, tv u bo bcap] W fun e w' => e = .returned (.bool b) ∧ Only (fun _ => False) W w' := by
  subst he
  exact exact_any t u W ao bo cap bcap h hs h' hs'
theorem c_check {W : World} {ao : Option Addr} (cap : Nat) (h : Lies W ao tC.l) : Calls Try.prog 24 #[tv tC ao cap] W fun e w' => e = .returned (.int .i64 0) ∧ Only (fun _ => False) W w' := by
  have h0 : (tC.lookF 1 4096).1 = 0 := by kernel_rfl
  have h1 := check_look tC W ao cap h sane_t (.inl h0)
  rw [h0] at h1
  exact h1
theorem c_check0 (W : World) : Calls Try.prog 24 #[.agg #[.int .i64 0, .int .i64 0, .string ⟨#[]⟩, .slice none 0 0]] W fun e w' => e = .returned (.int .i64 60) ∧ Only (fun _ => False) W w' := by
  have h0 : ((T.mk 0 0 ⟨#[]⟩ []).lookF 1 4096).1 = 60 := by kernel_rfl
  have h1 := check_look (.mk 0 0 ⟨#[]⟩ []) W none 0 (Row.nil _ _ _) (sane_leaf 0 0 ⟨#[]⟩ ⟨by omega, by omega⟩ ⟨by omega, by omega⟩ (Nat.zero_le _)) (.inr h0)
  rw [h0] at h1
  exact h1
theorem c_size {W : World} {ao : Option Addr} (cap : Nat) (h : Lies W ao tC.l) : Calls Try.prog 26 #[tv tC ao cap] W fun e w' => e = .returned (.int .i64 4) ∧ Only (fun _ => False) W w' := Size_ok tC W ao cap h sane_t ok_t
theorem c_depth {W : World} {ao : Option Addr} (cap : Nat) (h : Lies W ao tC.l) : Calls Try.prog 27 #[tv tC ao cap] W fun e w' => e = .returned (.int .i64 2) ∧ Only (fun _ => False) W w' := Depth_ok tC W ao cap h sane_t ok_t
theorem c_ground {W : World} {ao : Option Addr} (cap : Nat) (h : Lies W ao tC.l) : Calls Try.prog 29 #[tv tC ao cap] W fun e w' => e = .returned (.bool false) ∧ Only (fun _ => False) W w' := Ground_ok tC W ao cap h sane_t ok_t
theorem c_variant {W : World} {ao bo : Option Addr} (cap bcap : Nat) (h : Lies W ao tC.l) (h' : Lies W bo uC.l) : Calls Try.prog 36 #[tv tC ao cap, tv uC bo bcap] W fun e w' => e = .returned (.bool true) ∧ Only (fun _ => False) W w' := by
  have h1 := Variant_ok tC uC W ao bo cap bcap h sane_t ok_t h' sane_u ok_u
  rw [ren_t, ren_u, eq_uu] at h1
  exact h1
theorem c_same {W : World} {t u : T} {ao bo : Option Addr} (cap bcap : Nat) (b : Bool) (he : t.eqb u = b) (hs : t.Sane) (ht : t.Ok) (hs' : u.Sane) (hu : u.Ok) (h : Lies W ao t.l) (h' : Lies W bo u.l) : Calls Try.prog 30 #[tv t ao cap, tv u bo bcap] W fun e w' => e = .returned (.bool b) ∧ Only (fun _ => False) W w' := by
  subst he
  exact Same_ok t u W ao bo cap bcap h hs ht h' hs' hu
theorem c_clone {W : World} {ao : Option Addr} (cap : Nat) (h : Lies W ao tC.l) : Calls Try.prog 25 #[tv tC ao cap] W fun e w' => ∃ ao' cap', e = .returned (tv tC ao' cap') ∧ Lies w' ao' tC.l ∧ Only (fun _ => False) W w' := by
  refine (Clone_ok tC W ao cap h sane_t ok_t).mono ?_
  rintro e w' ⟨ao', cap', h1, h2, h3⟩
  exact ⟨ao', cap', h1, h2.mono (fun q hq => hq.2), h3⟩
end Go.Proofs.Ytdpbbcjlbnangaa.terms
