/-
  What is squeezed, opened again: mathematics.
-/
import Derived.Test.YtaohkakefdhecaaSqSqz
namespace Sqm
open Go Crcm
/-- so many items lead here -/
def St (s : List Int) (most : Nat) (o r : List Int) : Prop := ∃ k, k ≤ kn s ∧ s.drop (pl s k) = r ∧ ou s k = o ∧ fe s most k = 0
theorem St.zero (s : List Int) (most : Nat) : St s most [] s := ⟨0, Nat.zero_le _, rfl, rfl, rfl⟩
theorem St.fin {s : List Int} {most : Nat} {o : List Int} (h : St s most o []) : oE s most = 0 ∧ oO s most = o := by
  obtain ⟨k, hk, hp, rfl, hf⟩ := h
  have h1 : ¬ k < kn s := fun h => by have := pl_lt h; have := List.drop_eq_nil_iff.1 hp; omega
  have h2 : kn s = k := by omega
  have h3 : oE s most = 0 := by unfold oE; rw [h2]; exact hf
  exact ⟨h3, by unfold oO; rw [if_pos h3, h2]⟩
theorem ba_drp (s : List Int) (p i : Nat) : ba s (p + i) = ba (s.drop p) i := by
  unfold ba
  rw [List.getD_eq_getElem?_getD, List.getD_eq_getElem?_getD, List.getElem?_drop]
theorem St.run {s : List Int} {most q : Nat} {o ck rest : List Int} (h : St s most o ((((q - 1 : Nat) : Int) :: ck) ++ rest)) (h1 : 1 ≤ q) (h2 : q ≤ 128) (hc : ck.length = q) (hm : o.length + q ≤ most) : St s most (o ++ ck) rest := by
  obtain ⟨k, hk, hp, rfl, hf⟩ := h
  have hb : ba s (pl s k) = q - 1 := by
    have := ba_drp s (pl s k) 0
    rw [hp] at this
    simpa [ba] using this
  have hl := congrArg List.length hp
  rw [List.length_drop] at hl
  simp at hl
  have hsz : sz s (pl s k) = q + 1 := by unfold sz; rw [hb, if_pos (by omega)]; omega
  have hw : wh s (pl s k) = true := decide_eq_true (by rw [hsz]; omega)
  have hcn : cnt s (pl s k) = q := by unfold cnt; rw [hb, if_pos (by omega)]; omega
  have hkk : k < kn s := kn_lt hk (by omega)
  have hp1 : s.drop (pl s k + 1) = ck ++ rest := by rw [← List.drop_drop, hp]; rfl
  refine ⟨k + 1, hkk, ?_, ?_, ?_⟩
  · rw [pl_wh hw, hsz, show pl s k + (q + 1) = pl s k + 1 + q by omega, ← List.drop_drop, hp1]
    rw [List.drop_append_of_le_length (by omega), List.drop_of_length_le (by omega)]; rfl
  · rw [ou, Sqm.put, hb, if_pos (by omega), hp1, show q - 1 + 1 = q by omega, List.take_append_of_le_length (by omega), List.take_of_length_le (by omega)]
  · rw [fe_at hf]
    exact er_ok.2 ⟨hw, decide_eq_true (.inl (by omega)), by rw [hcn]; exact hm⟩
theorem St.rn {s : List Int} {most : Nat} {o x : List Int} (hm : o.length + x.length ≤ most) : ∀ (k : Nat), k ≤ nbk x.length 128 → ∀ rest, St s most o (Sqm.rn x k ++ rest) → St s most (o ++ x.take (k * 128)) rest
  | 0, _, rest, h => by simpa [Sqm.rn] using h
  | k + 1, hk, rest, h => by
    have hlt : k * 128 < x.length := (nbk_lt (by omega)).1 hk
    obtain ⟨b1, b2, b3⟩ := bln_pos (n := 128) (i := k) (by omega) hlt
    rw [Sqm.rn, List.append_assoc] at h
    have ih := St.rn hm k (by omega) _ h
    have hc : (ck x 128 k).length = bln x.length 128 k := ck_length rfl
    have h2 := ih.run b1 b2 hc (by rw [List.length_append, List.length_take]; omega)
    have e : x.take ((k + 1) * 128) = x.take (k * 128) ++ ck x 128 k := by
      rw [show (k + 1) * 128 = k * 128 + 128 by omega, List.take_add]; rfl
    rw [e, ← List.append_assoc]
    exact h2
theorem St.runs {s : List Int} {most : Nat} {o x rest : List Int} (h : St s most o (Sqm.runs x ++ rest)) (hm : o.length + x.length ≤ most) : St s most (o ++ x) rest := by
  have h2 := St.rn hm _ (Nat.le_refl _) rest h
  rwa [List.take_of_length_le (by
    exact Nat.le_of_not_lt (fun hx => absurd ((nbk_lt (L := x.length) (n := 128) (i := nbk x.length 128) (by omega)).2 hx) (Nat.lt_irrefl _)))] at h2
theorem cpy_take {l : List Int} {g d : Nat} (hd1 : 1 ≤ d) (hd : d ≤ g) : ∀ n, g + n ≤ l.length → al l (g - d) g n = n → cpy (l.take g) d n = l.take (g + n)
  | 0, _, _ => rfl
  | n + 1, h, ha => by
    have hp := al_part ha (Nat.le_succ n)
    have he := al_eq ha (Nat.lt_succ_self n)
    rw [cpy, cpy_take hd1 hd n (by omega) hp, List.length_take, show min (g + n) l.length = g + n by omega, ← Nat.add_assoc, List.take_add_one, List.getElem?_eq_getElem (by omega : g + n < l.length)]
    congr 1
    rw [List.getD_eq_getElem?_getD, List.getElem?_take_of_lt (by omega), show g + n - d = g - d + n by omega, ← List.getD_eq_getElem?_getD, he, List.getD_eq_getElem?_getD, List.getElem?_eq_getElem (by omega : g + n < l.length)]
    rfl
theorem St.copy {s l : List Int} {most g : Nat} {rest : List Int} (hc : cpn l g ≠ 0) (h : St s most (l.take g) (cpb l g ++ rest)) (hm : g + cpn l g ≤ most) : St s most (l.take (g + cpn l g)) rest := by
  obtain ⟨s3, s130, sl, d1, d4, dg, ha⟩ := cpn_spec hc
  obtain ⟨k, hk, hp, ho, hf⟩ := h
  have q0 := ba_drp s (pl s k) 0
  have q1 := ba_drp s (pl s k) 1
  have q2 := ba_drp s (pl s k) 2
  rw [hp] at q0 q1 q2
  have hl := congrArg List.length hp
  rw [List.length_drop] at hl
  unfold cpb at q0 q1 q2 hl hp
  have hb0 : ba s (pl s k) = cpn l g + 125 := by
    rw [Nat.add_zero] at q0
    rw [q0]; show (((cpn l g + 125 : Nat) : Int)).toNat = _; omega
  have hb1 : ba s (pl s k + 1) = cpd l g % 256 := by
    rw [q1]; show (((cpd l g % 256 : Nat) : Int)).toNat = _; omega
  have hb2 : ba s (pl s k + 2) = cpd l g / 256 := by
    rw [q2]; show (((cpd l g / 256 : Nat) : Int)).toNat = _; omega
  simp at hl
  have hsz : sz s (pl s k) = 3 := by unfold sz; rw [hb0, if_neg (by omega)]
  have hw : wh s (pl s k) = true := decide_eq_true (by rw [hsz]; omega)
  have hcn : cnt s (pl s k) = cpn l g := by unfold cnt; rw [hb0, if_neg (by omega)]; omega
  have hfa : far s (pl s k) = cpd l g := by unfold far; rw [hb0, if_neg (by omega), hb1, hb2]; omega
  have hkk : k < kn s := kn_lt hk (by omega)
  have hol : (l.take g).length = g := by rw [List.length_take]; omega
  refine ⟨k + 1, hkk, ?_, ?_, ?_⟩
  · rw [pl_wh hw, hsz, ← List.drop_drop, hp]; rfl
  · rw [ou, Sqm.put, hb0, if_neg (by omega), hfa, hcn, ho, cpy_take d1 dg _ sl ha]
  · rw [fe_at hf, ho, hol]
    exact er_ok.2 ⟨hw, decide_eq_true (.inr (by rw [hfa]; omega)), by rw [hcn]; exact hm⟩
theorem St.sqz {s l : List Int} {most : Nat} (hm : l.length ≤ most) : ∀ (k : Nat), k ≤ (cps l).length → ∀ rest, St s most [] (Sqm.sqz l k ++ rest) → St s most (l.take (bh l k)) rest
  | 0, _, rest, h => by simpa [Sqm.sqz, bh] using h
  | k + 1, hk, rest, h => by
    obtain ⟨g1, g2, g3⟩ := cps_spec (l := l) (k := k) hk
    obtain ⟨-, -, sl, -⟩ := cpn_spec g3
    rw [Sqm.sqz, List.append_assoc, List.append_assoc] at h
    have ih := St.sqz hm k (by omega) _ h
    rw [bh]
    generalize (cps l).getD k 0 = g at *
    have h2 := ih.runs (by unfold seg; rw [List.length_take, List.length_take, List.length_drop]; omega)
    have e : l.take (bh l k) ++ seg l (bh l k) g = l.take g := by
      unfold seg
      rw [← List.take_add, show bh l k + (g - bh l k) = g by omega]
    rw [e] at h2
    exact h2.copy g3 (by omega)
theorem back (l : List Int) : oE (sqA l) l.length = 0 ∧ oO (sqA l) l.length = l := by
  have h0 := St.zero (sqA l) l.length
  have hb := bh_end (l := l) (k := (cps l).length) (Nat.le_refl _)
  have h1 := St.sqz (s := sqA l) (Nat.le_refl _) (cps l).length (Nat.le_refl _) (Sqm.runs (l.drop (bh l (cps l).length)) ++ []) (by rw [List.append_nil]; exact h0)
  have h2 := h1.runs (by rw [List.length_take, List.length_drop]; omega)
  rw [List.take_append_drop] at h2
  exact h2.fin
theorem nbk_q (x n : Nat) (hn : 3 ≤ n) : nbk x 128 ≤ (x + n) / 4 := by unfold nbk; omega
theorem sqz_len4 {l : List Int} : ∀ k, k ≤ (cps l).length → (Sqm.sqz l k).length ≤ bh l k + bh l k / 4
  | 0, _ => by simp [Sqm.sqz]
  | k + 1, h => by
    have ih := sqz_len4 (l := l) k (by omega)
    obtain ⟨h1, h2, h3⟩ := cps_spec (l := l) (k := k) (by omega)
    obtain ⟨h4, -⟩ := cpn_spec h3
    rw [Sqm.sqz, List.length_append, List.length_append, runs_len, bh]
    generalize (cps l).getD k 0 = g at *
    have h6 : (seg l (bh l k) g).length = g - bh l k := by unfold seg; rw [List.length_take, List.length_drop]; omega
    have h7 := nbk_q (g - bh l k) (cpn l g) h4
    have : (cpb l g).length = 3 := rfl
    rw [h6]
    omega
theorem sqA_len (l : List Int) : (sqA l).length ≤ l.length + l.length / 4 + 1 := by
  have h := sqz_len4 (l := l) (cps l).length (Nat.le_refl _)
  have hb := bh_end (l := l) (k := (cps l).length) (Nat.le_refl _)
  unfold sqA
  rw [List.length_append, runs_len, List.length_drop]
  have h7 : nbk (l.length - bh l (cps l).length) 128 ≤ (l.length - bh l (cps l).length) / 4 + 1 := by unfold nbk; omega
  omega
end Sqm
