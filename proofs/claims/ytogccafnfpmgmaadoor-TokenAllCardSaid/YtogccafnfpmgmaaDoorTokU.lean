/- Tokens: a name's text is scanned as that name (plain words). -/
import Derived.Test.YtogccafnfpmgmaaDoorTokR
namespace Go.Proofs.YtogccafnfpmgmaaDoor.toks
open Go.RowKit Go.Proofs.YtogccafnfpmgmaaDoor.own
theorem byte_all (p : UInt8 → Bool) (h : (List.range 256).all (fun d => p (UInt8.ofNat d)) = true) (x : UInt8) : p x = true := by
  have h1 := List.all_eq_true.1 h x.toNat (List.mem_range.2 (UInt8.toNat_lt x))
  rwa [UInt8.ofNat_toNat] at h1
theorem escB_piece (x : UInt8) : ∃ y t, escB x = y :: t ∧ (iv y == 39) = false ∧ pieceF (y :: t) = some (x, (y :: t).length) := by
  have h := byte_all (fun x => match escB x with | y :: t => !(iv y == 39) && (pieceF (y :: t) == some (x, (y :: t).length)) | [] => false) (by kernel_rfl) x
  cases he : escB x with
  | nil => rw [he] at h; cases h
  | cons y t =>
    rw [he] at h
    simp only [Bool.and_eq_true, Bool.not_eq_true'] at h
    exact ⟨y, t, rfl, h.1, eq_of_beq h.2⟩
theorem quoteL_esc : ∀ (l acc : List UInt8) (n m : Nat), l.length + 1 ≤ m → quoteL m (l.flatMap escB ++ [39]) acc n = if 64 < acc.length + l.length then .no 3 else .ok 2 (acc ++ l) 0 (n + (l.flatMap escB).length + 1)
  | l, acc, n, 0, h => absurd h (by simp)
  | [], acc, n, m + 1, _ => by
    show quoteL (m + 1) [39] acc n = _
    rw [quoteL, if_pos (by decide)]
    simp
  | x :: l, acc, n, m + 1, h => by
    obtain ⟨y, t, he, hy, hp⟩ := escB_piece x
    have hp2 := pieceF_app (b := l.flatMap escB ++ [39]) hp
    have e1 : (x :: l).flatMap escB ++ [39] = y :: t ++ (l.flatMap escB ++ [39]) := by rw [List.flatMap_cons, he, List.append_assoc]
    rw [e1]
    rw [List.cons_append] at hp2 ⊢
    rw [quoteL, if_neg (by rw [hy]; simp), hp2]
    show quoteL m ((y :: (t ++ (l.flatMap escB ++ [39]))).drop (y :: t).length) (acc ++ [x]) (n + (y :: t).length) = _
    rw [List.length_cons, List.drop_succ_cons, List.drop_left, quoteL_esc l (acc ++ [x]) _ m (by rw [List.length_cons] at h; omega)]
    have e2 : ((x :: l).flatMap escB).length = (t.length + 1) + (l.flatMap escB).length := by rw [List.flatMap_cons, he, List.length_append, List.length_cons]
    rw [e2, List.length_append, List.length_cons, List.length_cons, List.length_nil, List.append_assoc]
    rw [show acc.length + (0 + 1) + l.length = acc.length + (l.length + 1) by omega, show n + (t.length + 1) + (l.flatMap escB).length + 1 = n + (t.length + 1 + (l.flatMap escB).length) + 1 by omega]
    rfl
theorem rowN_all {g : Int → Bool} : ∀ (l : List UInt8), l.all (fun b => g (iv b)) = true → rowN g l = l.length
  | [], _ => rfl
  | x :: l, h => by
    rw [List.all_cons, Bool.and_eq_true] at h
    rw [rowN, if_pos h.1, rowN_all l h.2, List.length_cons]
theorem nameF_all {kd : Int} {g : Int → Bool} {l : List UInt8} (h : l.all (fun b => g (iv b)) = true) : nameF kd g l = if 64 < l.length then .no 3 else .ok kd l 0 l.length := by
  unfold nameF
  rw [rowN_all l h, List.take_length]
theorem readF_small {x : UInt8} {t : List UInt8} (h : smallB (iv x) = true) : readF (x :: t) = nameF 1 wordB (x :: t) := by
  have h1 := byte_all (fun x => !(smallB (iv x)) || (!(iv x == 46) && !(signB (iv x)))) (by kernel_rfl) x
  simp only [h, Bool.not_true, Bool.false_or, Bool.and_eq_true, Bool.not_eq_true'] at h1
  rw [readF, if_neg (by rw [h1.1]; simp), if_neg (by rw [h1.1, h1.2]; decide), if_pos h]
theorem readF_sign {x : UInt8} {t : List UInt8} (h : signB (iv x) = true) (h2 : (iv x == 46 && endsF t) = false) : readF (x :: t) = nameF 1 signB (x :: t) := by
  rw [readF, if_neg (by rw [h2]; decide), if_pos (by rw [h]; simp)]
theorem scan_first {x : UInt8} {t : List UInt8} (h1 : blankB (iv x) = false) (h2 : (iv x == 37) = false) (h3 : ((iv x == 47) && openC (x :: t)) = false) :
    scanF (x :: t) 0 = match readF (x :: t) with | .no e => .no 0 e | .ok kd s n len => .ok kd s n 0 false len := by
  have hs : skipA (x :: t) (x :: t).length 0 = (0, true) := skipA_stop (m := t.length) rfl h1 h2 h3
  unfold scanF
  rw [hs, if_neg (by simp), if_neg (by simp)]
  show (match readF (x :: t) with | .no e => SR.no 0 e | .ok kd s n len => SR.ok kd s n 0 (decide (0 < 0)) (0 + len)) = _
  cases readF (x :: t) with
  | no e => rfl
  | ok kd s n len => show SR.ok kd s n 0 (decide (0 < 0)) (0 + len) = _; rw [Nat.zero_add]; rfl
theorem bstr_list (l : List UInt8) : (bstr l).toList = l := by rw [ByteArray.toList_eq]
theorem allB_bstr (g : Int → Bool) (l : List UInt8) : allB g (bstr l) = l.all (fun b => g (iv b)) := rfl
def tokenQ (l : List UInt8) : SR := if 64 < l.length then .no 0 3 else .ok (if plainB (bstr l) = true then 1 else 2) l 0 0 false (quoteT l).length
theorem scan_name {kd : Int} {g : Int → Bool} {x : UInt8} {t : List UInt8} (h1 : blankB (iv x) = false) (h2 : (iv x == 37) = false) (h3 : ((iv x == 47) && openC (x :: t)) = false) (h4 : readF (x :: t) = nameF kd g (x :: t)) (h5 : (x :: t).all (fun b => g (iv b)) = true) :
    scanF (x :: t) 0 = if 64 < (x :: t).length then .no 0 3 else .ok kd (x :: t) 0 0 false (x :: t).length := by
  rw [scan_first h1 h2 h3, h4, nameF_all h5]
  by_cases h : 64 < (x :: t).length
  · rw [if_pos h, if_pos h]
  · rw [if_neg h, if_neg h]
theorem small_kind (x : UInt8) (h : smallB (iv x) = true) : blankB (iv x) = false ∧ (iv x == 37) = false ∧ (iv x == 47) = false := by
  have h1 := byte_all (fun x => !(smallB (iv x)) || (!(blankB (iv x)) && (!(iv x == 37) && !(iv x == 47)))) (by kernel_rfl) x
  simpa [h] using h1
theorem sign_kind (x : UInt8) (h : signB (iv x) = true) : blankB (iv x) = false ∧ (iv x == 37) = false := by
  have h1 := byte_all (fun x => !(signB (iv x)) || (!(blankB (iv x)) && !(iv x == 37))) (by kernel_rfl) x
  simpa [h] using h1
theorem open_prefix (x : UInt8) (t : List UInt8) : ((iv x == 47) && openC (x :: t)) = Lib.hasPrefix (x :: t) [47, 42] := by
  have e1 : ∀ (a : UInt8) (b : UInt8), (iv a == iv b) = (b == a) := fun a b => by
    rw [Bool.eq_iff_iff, beq_iff_eq, beq_iff_eq]
    unfold iv
    refine ⟨fun h => ?_, fun h => by rw [h]⟩
    exact (UInt8.toNat_inj.1 (by omega)).symm
  cases t with
  | nil => show ((iv x == 47) && false) = (47 == x && false); simp
  | cons y t =>
    show ((iv x == iv 47) && (iv x == iv 47 && iv y == iv 42)) = (47 == x && (42 == y && true))
    rw [e1, e1, Bool.and_true, ← Bool.and_assoc, Bool.and_self]
theorem scan_quote (l : List UInt8) (h1 : l ≠ [91, 93]) (h2 : l ≠ [123, 125]) : scanF (quoteT l) 0 = tokenQ l := by
  unfold tokenQ
  cases hp : plainB (bstr l) with
  | true =>
    have hq : quoteT l = l := by unfold quoteT; rw [if_pos hp]
    rw [hq, if_pos rfl]
    unfold plainB freeB barB at hp
    rw [bstr_list] at hp
    by_cases f1 : l = [33]
    · subst f1; rfl
    · by_cases f2 : l = [59]
      · subst f2; rfl
      · rw [beq_eq_false_iff_ne.2 f1, beq_eq_false_iff_ne.2 f2, beq_eq_false_iff_ne.2 h1, beq_eq_false_iff_ne.2 h2] at hp
        rw [if_neg (by decide)] at hp
        by_cases b1 : (l == [] || l == [46]) = true
        · rw [if_pos b1] at hp; cases hp
        · rw [if_neg b1] at hp
          cases l with
          | nil => exact absurd rfl b1
          | cons x t =>
            have hp : (if smallB (iv x) = true then allB wordB (bstr (x :: t)) else !(Lib.hasPrefix (x :: t) [47, 42]) && allB signB (bstr (x :: t))) = true := hp
            by_cases hs : smallB (iv x) = true
            · rw [if_pos hs, allB_bstr] at hp
              obtain ⟨k1, k2, k3⟩ := small_kind x hs
              exact scan_name k1 k2 (by rw [k3]; rfl) (readF_small hs) hp
            · rw [if_neg hs, Bool.and_eq_true, allB_bstr] at hp
              obtain ⟨hpre, hall⟩ := hp
              have hall2 := hall
              rw [List.all_cons, Bool.and_eq_true] at hall
              obtain ⟨k1, k2⟩ := sign_kind x hall.1
              refine scan_name k1 k2 (by rw [open_prefix]; simpa using hpre) (readF_sign hall.1 ?_) hall2
              cases t with
              | nil =>
                cases hx : (iv x == 46) with
                | false => rfl
                | true =>
                  exfalso
                  apply b1
                  have hx' : x = 46 := by
                    have h1 := byte_all (fun x => !(iv x == 46) || (x == 46)) (by kernel_rfl) x
                    simp only [hx, Bool.not_true, Bool.false_or] at h1
                    exact eq_of_beq h1
                  rw [hx']
                  rfl
              | cons y t =>
                rw [List.all_cons, Bool.and_eq_true] at hall
                obtain ⟨j1, j2⟩ := sign_kind y hall.2.1
                show (iv x == 46 && (blankB (iv y) || iv y == 37)) = false
                rw [j1, j2]
                simp
  | false =>
    have hq : quoteT l = 39 :: (l.flatMap escB ++ [39]) := by unfold quoteT; rw [if_neg (by rw [hp]; decide)]
    rw [hq]
    rw [if_neg (c := false = true) (by decide)]
    rw [scan_first (by decide) (by decide) (by show (false && _) = false; rfl)]
    have hr : readF (39 :: (l.flatMap escB ++ [39])) = quotedF (39 :: (l.flatMap escB ++ [39])) := by
      rw [readF, if_neg (by show ¬ (false && _) = true; simp), if_neg (by decide), if_neg (by decide), if_neg (by decide), if_neg (by decide), if_neg (by decide), if_neg (by decide), if_pos (by decide)]
    rw [hr]
    unfold quotedF
    rw [List.drop_succ_cons, List.drop_zero, quoteL_esc]
    · rw [List.length_nil, Nat.zero_add]
      by_cases h : 64 < l.length
      · rw [if_pos h, if_pos h]
      · rw [if_neg h, if_neg h]
        show SR.ok 2 l 0 0 false _ = SR.ok 2 l 0 0 false _
        congr 1
        simp
        omega
    · have : ∀ (l : List UInt8), l.length ≤ (l.flatMap escB).length := fun l => by
        induction l with
        | nil => exact Nat.le_refl _
        | cons x l ih =>
          obtain ⟨y, t, he, _, _⟩ := escB_piece x
          rw [List.flatMap_cons, he, List.length_append, List.length_cons, List.length_cons]
          omega
      have := this l
      simp only [List.length_append, List.length_cons, List.length_nil]
      omega
end Go.Proofs.YtogccafnfpmgmaaDoor.toks
