/- Tokens: two texts with a line's end between. -/
import Derived.Test.YtogccafnfpmgmaaDoorTokQ
namespace Go.Proofs.YtogccafnfpmgmaaDoor.toks
open Go.RowKit Go.Proofs.YtogccafnfpmgmaaDoor.own
theorem rowN_app {g : Int → Bool} (hg : g 10 = false) : ∀ (r b : List UInt8), rowN g (r ++ 10 :: b) = rowN g r
  | [], b => by
    show (if g (iv 10) = true then rowN g b + 1 else 0) = 0
    rw [if_neg (by show ¬ g 10 = true; rw [hg]; decide)]
  | x :: r, b => by
    rw [List.cons_append, rowN, rowN, rowN_app hg r b]
theorem take_row {g : Int → Bool} (hg : g 10 = false) (r b : List UInt8) : (r ++ 10 :: b).take (rowN g (r ++ 10 :: b)) = r.take (rowN g r) := by
  rw [rowN_app hg, List.take_append_of_le_length (rowN_le g r)]
theorem closeN_app : ∀ (r b : List UInt8) (c : Nat), closeN r = some c → closeN (r ++ b) = some c
  | [], b, c, h => by cases h
  | [x], b, c, h => by cases h
  | x :: y :: r, b, c, h => by
    rw [closeN] at h
    rw [List.cons_append, List.cons_append, closeN]
    by_cases hq : (iv x == 42 && iv y == 47) = true
    · rw [if_pos hq] at h ⊢; exact h
    · rw [if_neg hq] at h ⊢
      obtain ⟨d, hd, rfl⟩ := Option.map_eq_some_iff.1 h
      have := closeN_app (y :: r) b d hd
      rw [List.cons_append] at this
      rw [this]
      rfl
theorem openC_app (x : UInt8) (r b : List UInt8) : openC (x :: r ++ 10 :: b) = openC (x :: r) := by
  cases r with
  | nil => show (iv x == 47 && iv 10 == 42) = false; rw [show (iv 10 == 42) = false by decide]; simp
  | cons y r => rfl
theorem skR_app : ∀ (n : Nat) (r b : List UInt8), r.length ≤ n → (skR r).2 = true → ((skR r).1 = r.length → skR (r ++ 10 :: b) = sh (r.length + 1) (skR b)) ∧ ((skR r).1 ≠ r.length → skR (r ++ 10 :: b) = skR r)
  | _, [], b, _, _ => by
    refine ⟨fun _ => ?_, fun h => absurd rfl h⟩
    rw [List.nil_append, skR_cons, if_pos (by decide)]
    rfl
  | 0, x :: r, b, h, _ => absurd h (by simp)
  | n + 1, x :: r, b, hn, h2 => by
    rw [List.length_cons] at hn
    have key : ∀ (k : Nat), 1 ≤ k → k ≤ (x :: r).length → skR (x :: r) = sh k (skR ((x :: r).drop k)) → skR (x :: r ++ 10 :: b) = sh k (skR ((x :: r).drop k ++ 10 :: b)) →
        ((skR (x :: r)).1 = (x :: r).length → skR (x :: r ++ 10 :: b) = sh ((x :: r).length + 1) (skR b)) ∧ ((skR (x :: r)).1 ≠ (x :: r).length → skR (x :: r ++ 10 :: b) = skR (x :: r)) := fun k hk1 hk2 e1 e2 => by
      have hl : ((x :: r).drop k).length = (x :: r).length - k := List.length_drop
      rw [e1] at h2
      obtain ⟨i1, i2⟩ := skR_app n ((x :: r).drop k) b (by rw [hl, List.length_cons]; omega) h2
      rw [e1, e2]
      refine ⟨fun h => ?_, fun h => ?_⟩
      · have : (skR ((x :: r).drop k)).1 = ((x :: r).drop k).length := by
          have h' : k + (skR ((x :: r).drop k)).1 = (x :: r).length := h
          omega
        rw [i1 this, sh_sh, hl, show k + ((x :: r).length - k + 1) = (x :: r).length + 1 by omega]
      · rw [i2 (fun e => h (by show k + (skR ((x :: r).drop k)).1 = _; omega))]
    rw [List.cons_append, skR_cons x r, skR_cons x (r ++ 10 :: b)]
    rw [skR_cons x r] at h2 key
    rw [List.cons_append, skR_cons x (r ++ 10 :: b)] at key
    by_cases hb : blankB (iv x) = true
    · rw [if_pos hb] at key ⊢
      rw [if_pos hb] at key ⊢
      exact key 1 (Nat.le_refl _) (by simp) rfl rfl
    · rw [if_neg hb] at key h2 ⊢
      rw [if_neg hb] at key ⊢
      by_cases h37 : (iv x == 37) = true
      · have hp := rowIn_pos (r := r) h37
        have hle := rowN_le inLineB (x :: r)
        have hr := rowN_app (g := inLineB) (by decide) (x :: r) b
        rw [List.cons_append] at hr
        rw [if_pos h37] at key h2 ⊢
        rw [if_pos h37] at key ⊢
        refine key _ hp hle rfl ?_
        rw [hr, ← List.cons_append, List.drop_append_of_le_length hle]
      · rw [if_neg h37] at key h2 ⊢
        rw [if_neg h37] at key ⊢
        by_cases h47 : (iv x == 47) = true
        · have ho := openC_app x r b
          rw [List.cons_append] at ho
          rw [if_pos h47] at key h2 ⊢
          rw [if_pos h47, ho] at key ⊢
          by_cases hop : openC (x :: r) = true
          · rw [if_pos hop] at key h2 ⊢
            rw [if_pos hop] at key ⊢
            cases hc : closeN (r.drop 1) with
            | none => rw [hc] at h2; cases h2
            | some c =>
              have hr1 : 1 ≤ r.length := by
                cases r with
                | nil => cases hop
                | cons y t => simp
              have hcl := closeN_le hc
              rw [List.length_drop] at hcl
              have hc2 := closeN_app (r.drop 1) (10 :: b) c hc
              rw [← List.drop_append_of_le_length hr1] at hc2
              rw [hc, hc2] at key
              rw [hc2]
              refine key (2 + c) (by omega) (by rw [List.length_cons]; omega) ?_ ?_
              · show sh (2 + c) (skR (r.drop (1 + c))) = sh (2 + c) (skR ((x :: r).drop (2 + c)))
                rw [show 2 + c = (1 + c) + 1 by omega, List.drop_succ_cons]
              · show sh (2 + c) (skR ((r ++ 10 :: b).drop (1 + c))) = sh (2 + c) (skR ((x :: r).drop (2 + c) ++ 10 :: b))
                rw [List.drop_append_of_le_length (by omega), show 2 + c = (1 + c) + 1 by omega, List.drop_succ_cons]
          · rw [if_neg hop] at key h2 ⊢
            rw [if_neg hop] at key ⊢
            exact ⟨fun h => absurd h (by simp), fun _ => rfl⟩
        · rw [if_neg h47] at key h2 ⊢
          rw [if_neg h47] at key ⊢
          exact ⟨fun h => absurd h (by simp), fun _ => rfl⟩
theorem unhexF_app {r b : List UInt8} {q : UInt8 × Nat} (h : unhexF r = some q) : unhexF (r ++ b) = some q := by
  have hl : 2 ≤ r.length := by have := unhexF_le (show unhexF r = some (q.1, q.2) from h); unfold unhexF at h; rcases Nat.lt_or_ge r.length 2 with h' | h'
                               · rw [List.drop_eq_nil_of_le (by omega)] at h; cases h
                               · exact h'
  unfold unhexF at h ⊢
  rw [List.drop_append_of_le_length hl]
  match hr : r.drop 2, h with
  | [], h => cases h
  | [x], h => cases h
  | x :: y :: t, h =>
    rw [List.cons_append, List.cons_append]
    simp only at h ⊢
    split at h
    · cases h
    · rename_i h1
      rw [if_neg h1]
      split at h
      · rename_i h2
        rw [if_pos h2]
        exact h
      · rename_i h2
        rw [if_neg h2]
        cases t with
        | nil => cases h
        | cons z t => exact h
theorem pieceF_app {x : UInt8} {r b : List UInt8} {q : UInt8 × Nat} (h : pieceF (x :: r) = some q) : pieceF (x :: r ++ b) = some q := by
  rw [List.cons_append]
  rw [pieceF] at h ⊢
  split at h
  · rename_i h1; rw [if_pos h1]; exact h
  · rename_i h1
    rw [if_neg h1]
    split at h
    · rename_i h2
      rw [if_pos h2]
      cases r with
      | nil => cases h
      | cons y t =>
        rw [List.cons_append]
        rw [unescF] at h ⊢
        split at h
        · rename_i h3; rw [if_pos h3]; exact h
        · rename_i h3
          rw [if_neg h3]
          split at h
          · rename_i h4; rw [if_pos h4]; exact h
          · rename_i h4
            rw [if_neg h4]
            split at h
            · rename_i h5; rw [if_pos h5]; exact h
            · rename_i h5
              rw [if_neg h5]
              split at h
              · rename_i h6; rw [if_pos h6]; exact h
              · rename_i h6
                rw [if_neg h6]
                split at h
                · rename_i h7
                  rw [if_pos h7]
                  have := unhexF_app (b := b) h
                  rw [List.cons_append, List.cons_append] at this
                  exact this
                · cases h
    · rename_i h2
      rw [if_neg h2]
      exact h
theorem pairB_app (x : UInt8) (r b : List UInt8) : pairB (x :: r ++ 10 :: b) = pairB (x :: r) := by
  cases r with
  | nil => show (iv x == 39 && iv 10 == 39) = false; rw [show (iv 10 == 39) = false by decide]; simp
  | cons y r => rfl
theorem quoteL_app : ∀ (m k : Nat) (r b acc : List UInt8) (n : Nat) (kd : Int) (s : List UInt8) (v : Int) (len : Nat), quoteL m r acc n = .ok kd s v len → quoteL (m + k) (r ++ 10 :: b) acc n = .ok kd s v len
  | 0, _, r, b, acc, n, kd, s, v, len, h => by cases h
  | m + 1, _, [], b, acc, n, kd, s, v, len, h => by cases h
  | m + 1, k, x :: r, b, acc, n, kd, s, v, len, h => by
    rw [quoteL] at h
    have hp := pairB_app x r b
    rw [List.cons_append] at hp
    rw [List.cons_append, show m + 1 + k = (m + k) + 1 by omega, quoteL, hp]
    by_cases hq : (iv x == 39 && !(pairB (x :: r))) = true
    · rw [if_pos hq] at h ⊢; exact h
    · rw [if_neg hq] at h ⊢
      cases hpc : pieceF (x :: r) with
      | none => rw [hpc] at h; cases h
      | some q =>
        obtain ⟨c, j⟩ := q
        have h2 := pieceF_app (b := 10 :: b) hpc
        rw [List.cons_append] at h2
        have h3 := pieceF_le (by simpa using hq) hpc
        rw [hpc] at h
        rw [h2]
        simp only at h ⊢
        rw [← List.cons_append, List.drop_append_of_le_length h3.2]
        exact quoteL_app m k _ b _ _ _ _ _ _ h
theorem readF_app {r b : List UInt8} {kd : Int} {s : List UInt8} {v : Int} {len : Nat} (h : readF r = .ok kd s v len) : readF (r ++ 10 :: b) = .ok kd s v len := by
  have hn : ∀ kd' g, g 10 = false → nameF kd' g (r ++ 10 :: b) = nameF kd' g r := fun kd' g hg => by
    unfold nameF
    rw [take_row hg, rowN_app hg]
  have hnum : numberF (r ++ 10 :: b) = numberF r := by
    unfold numberF
    rw [take_row (by decide), rowN_app (by decide)]
  cases r with
  | nil => cases h
  | cons x t =>
    have he : endsF (t ++ 10 :: b) = endsF t := by
      cases t with
      | nil => rfl
      | cons y t => rfl
    rw [List.cons_append] at hn hnum ⊢
    rw [readF] at h ⊢
    rw [he, hn 1 signB (by decide), hn 1 wordB (by decide), hn 3 wordB (by decide), hnum]
    by_cases h39 : (iv x == 39) = true
    · have hx : iv x = 39 := by rwa [beq_iff_eq] at h39
      rw [hx] at h ⊢
      rw [if_neg (by simp), if_neg (by decide), if_neg (by decide), if_neg (by decide), if_neg (by decide), if_neg (by decide), if_neg (by decide), if_pos (by decide)] at h ⊢
      unfold quotedF at h ⊢
      have := quoteL_app (x :: t).length (10 :: b).length _ b _ _ _ _ _ _ h
      rw [List.drop_succ_cons, List.drop_zero] at this ⊢
      rw [← this, ← List.cons_append, List.length_append]
    · rw [if_neg h39] at h ⊢
      exact h
theorem scanR_app {r b : List UInt8} {kd : Int} {s : List UInt8} {n : Int} {at_ : Nat} {lay : Bool} {next : Nat} (h : scanR r = .ok kd s n at_ lay next) : scanR (r ++ 10 :: b) = .ok kd s n at_ lay next := by
  have hle := skR_le r
  unfold scanR at h ⊢
  cases h2 : (skR r).2 with
  | false => rw [h2] at h; cases h
  | true =>
    rw [h2] at h
    simp only [Bool.true_eq_false, if_false] at h
    by_cases he : (skR r).1 = r.length
    · rw [if_pos he] at h; cases h
    · rw [if_neg he] at h
      rw [(skR_app _ r b (Nat.le_refl _) h2).2 he, h2]
      simp only [Bool.true_eq_false, if_false]
      rw [if_neg (by rw [List.length_append, List.length_cons]; omega), List.drop_append_of_le_length hle]
      cases hr : readF (r.drop (skR r).1) with
      | no e => rw [hr] at h; cases h
      | ok kd' s' n' len =>
        rw [hr] at h
        rw [readF_app hr]
        exact h
theorem readF_no4 {r : List UInt8} (h : readF r = .no 4) : False := by
  have hn : ∀ kd g (t : List UInt8), nameF kd g t = .no 4 → False := fun kd g t h => by
    unfold nameF at h
    split at h <;> cases h
  have hq : ∀ (m : Nat) (t acc : List UInt8) (n : Nat), quoteL m t acc n = .no 4 → False := fun m => by
    induction m with
    | zero => intro t acc n h; cases h
    | succ m ih =>
      intro t acc n h
      cases t with
      | nil => cases h
      | cons x t =>
        rw [quoteL] at h
        split at h
        · split at h <;> cases h
        · cases hp : pieceF (x :: t) with
          | none => rw [hp] at h; cases h
          | some q => rw [hp] at h; exact ih _ _ _ h
  cases r with
  | nil => cases h
  | cons x t =>
    rw [readF] at h
    split at h
    · cases h
    · split at h
      · exact hn _ _ _ h
      · split at h
        · exact hn _ _ _ h
        · split at h
          · exact hn _ _ _ h
          · split at h
            · unfold numberF at h
              cases hv : numN 0 ((x :: t).take (rowN digB (x :: t))) with
              | none => rw [hv] at h; cases h
              | some v => rw [hv] at h; cases h
            · split at h
              · cases h
              · split at h
                · cases h
                · split at h
                  · exact hq _ _ _ _ h
                  · cases h
theorem scanR_end {r b : List UInt8} {next : Nat} (h : scanR r = .no next 4) : next = r.length ∧ scanR (r ++ 10 :: b) = layS (shS (r.length + 1) (scanR b)) := by
  have hle := skR_le r
  have hlb := skR_le b
  unfold scanR at h
  cases h2 : (skR r).2 with
  | false => rw [h2] at h; cases h
  | true =>
    rw [h2] at h
    simp only [Bool.true_eq_false, if_false] at h
    by_cases he : (skR r).1 = r.length
    · rw [if_pos he] at h
      cases h
      refine ⟨rfl, ?_⟩
      unfold scanR
      rw [(skR_app _ r b (Nat.le_refl _) h2).1 he]
      unfold sh
      simp only [List.length_append, List.length_cons]
      cases hb : (skR b).2 with
      | false => rfl
      | true =>
        simp only [Bool.true_eq_false, if_false]
        by_cases hq : (skR b).1 = b.length
        · rw [if_pos (by omega), if_pos hq]
          show SR.no _ 4 = SR.no _ 4
          congr 1
          omega
        · rw [if_neg (by omega), if_neg hq, show (r ++ 10 :: b).drop (r.length + 1 + (skR b).1) = b.drop (skR b).1 by
            rw [List.drop_append, List.drop_eq_nil_of_le (by omega), List.nil_append, show r.length + 1 + (skR b).1 - r.length = (skR b).1 + 1 by omega, List.drop_succ_cons]]
          cases readF (b.drop (skR b).1) with
          | no e => rfl
          | ok kd s n len =>
            show SR.ok kd s n _ _ _ = .ok kd s n _ _ _
            rw [decide_eq_true (by omega), show r.length + 1 + (skR b).1 + len = r.length + 1 + ((skR b).1 + len) by omega]
    · rw [if_neg he] at h
      cases hr : readF (r.drop (skR r).1) with
      | no e =>
        rw [hr] at h
        cases h
        exact absurd hr (fun e => readF_no4 e)
      | ok kd' s' n' len => rw [hr] at h; cases h
theorem allR_join : ∀ (m m' m2 : Nat) (r b : List UInt8) (x : List Tk) (n : Nat), allR m r = .ok x n → r.length < m → (r ++ 10 :: b).length < m' → b.length < m2 → n = r.length ∧ allR m' (r ++ 10 :: b) = preA x (layA (shA (r.length + 1) (allR m2 b)))
  | 0, _, _, r, _, _, _, _, h, _, _ => absurd h (by omega)
  | m + 1, m', m2, r, b, x, n, h, hm, hm', hm2 => by
    rw [allR] at h
    cases hs : scanR r with
    | no next e =>
      rw [hs] at h
      simp only at h
      by_cases he : e = 4
      · subst he
        rw [if_pos rfl] at h
        cases h
        obtain ⟨e1, e2⟩ := scanR_end (b := b) hs
        refine ⟨e1, ?_⟩
        have el : (r ++ 10 :: b).length - b.length = r.length + 1 := by rw [List.length_append, List.length_cons]; omega
        have := allR_lay m' m2 (r ++ 10 :: b) b (by rw [el]; exact e2) (fun k hk => by
          rw [el, List.drop_append, List.drop_eq_nil_of_le (by omega), List.nil_append, show r.length + 1 + k - r.length = k + 1 by omega, List.drop_succ_cons]) (by rw [List.length_append, List.length_cons]; omega) hm' hm2
        rw [el] at this
        rw [this]
        cases layA (shA (r.length + 1) (allR m2 b)) <;> rfl
      · rw [if_neg he] at h; cases h
    | ok kd s v at_ lay next =>
      rw [hs] at h
      obtain ⟨h1, h2⟩ := scanR_ok hs
      simp only at h
      cases hr : allR m (r.drop next) with
      | no n' e => rw [hr] at h; cases h
      | ok x' n' =>
        rw [hr] at h
        simp only [shA, preA, AR.ok.injEq] at h
        obtain ⟨rfl, rfl⟩ := h
        obtain ⟨m', rfl⟩ : ∃ k, m' = k + 1 := ⟨m' - 1, by omega⟩
        rw [List.length_append, List.length_cons] at hm'
        obtain ⟨i1, i2⟩ := allR_join m m' m2 (r.drop next) b x' n' hr (by rw [List.length_drop]; omega) (by rw [List.length_append, List.length_cons, List.length_drop]; omega) hm2
        rw [List.length_drop] at i1 i2
        refine ⟨by omega, ?_⟩
        rw [allR, scanR_app hs]
        simp only
        rw [List.drop_append_of_le_length h2, i2, shA_preA, preA_preA]
        have hla : ∀ (k : Nat) (y : AR), shA k (layA y) = layA (shA k y) := fun k y => by
          cases y with
          | no => rfl
          | ok l n => cases l <;> rfl
        rw [hla, shA_shA, show next + (r.length - next + 1) = r.length + 1 by omega]
theorem all_join {a b : List UInt8} {x y : List Tk} {n m : Nat} (ha : allF a = .ok x n) (hb : allF b = .ok y m) : allF (a ++ 10 :: b) = .ok (x ++ layL (y.map (shT (a.length + 1)))) (n + 1 + m) ∧ n = a.length := by
  rw [allF_R] at ha hb ⊢
  obtain ⟨h1, h2⟩ := allR_join _ ((a ++ 10 :: b).length + 1) (b.length + 1) a b x n ha (by omega) (by omega) (by omega)
  rw [h2, hb, h1]
  exact ⟨rfl, rfl⟩
end Go.Proofs.YtogccafnfpmgmaaDoor.toks
