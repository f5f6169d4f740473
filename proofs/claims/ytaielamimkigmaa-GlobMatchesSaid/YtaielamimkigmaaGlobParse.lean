/-
  What a part's bytes are as marks. Nothing of the program stands here.
-/
import Derived.Test.YtaielamimkigmaaGlobMath
namespace Globm

/-- the bytes from one up to another -/
def sp (a b : Nat) : Nat → Bool := fun y => decide (a ≤ y ∧ y ≤ b)
/-- a set's bytes behind its [ or its [!, with what is in it so far, and whether there was any -/
def mem : List Nat → (Nat → Bool) → Bool → Option ((Nat → Bool) × List Nat)
  | [], _, _ => none
  | a :: l, P, any =>
    if a = 93 then (if any then some (P, l) else none)
    else if 2 ≤ l.length ∧ l[0]? = some 45 ∧ l[1]? ≠ some 93 then mem (l.drop 2) (fun x => P x || sp a (l.getD 1 0) x) true
    else mem l (fun x => P x || sp a a x) true
termination_by l => l.length
decreasing_by
  · simp [List.length_drop]; omega
  · simp
theorem mem_nil (P : Nat → Bool) (any : Bool) : mem [] P any = none := by rw [mem]
theorem mem_end {l : List Nat} {P : Nat → Bool} : mem (93 :: l) P true = some (P, l) := by rw [mem]; rfl
theorem mem_none {l : List Nat} {P : Nat → Bool} : mem (93 :: l) P false = none := by rw [mem]; rfl
theorem mem_span {a b : Nat} {l : List Nat} {P : Nat → Bool} {any : Bool} (h : a ≠ 93) (hb : b ≠ 93) : mem (a :: 45 :: b :: l) P any = mem l (fun x => P x || sp a b x) true := by
  rw [mem, if_neg h, if_pos ⟨by simp, rfl, by simp [hb]⟩]; rfl
theorem mem_byte {a : Nat} {l : List Nat} {P : Nat → Bool} {any : Bool} (h : a ≠ 93) (hn : ¬ (2 ≤ l.length ∧ l[0]? = some 45 ∧ l[1]? ≠ some 93)) : mem (a :: l) P any = mem l (fun x => P x || sp a a x) true := by
  rw [mem, if_neg h, if_neg hn]
/-- what is left is shorter -/
theorem mem_len : ∀ (n : Nat) (l : List Nat) (P : Nat → Bool) (any : Bool) (Q : Nat → Bool) (r : List Nat), l.length ≤ n → mem l P any = some (Q, r) → r.length < l.length := by
  intro n
  induction n with
  | zero =>
    intro l P any Q r hl h
    obtain rfl : l = [] := List.eq_nil_of_length_eq_zero (by omega)
    rw [mem_nil] at h; cases h
  | succ n ih =>
    intro l P any Q r hl h
    match l, hl with
    | [], _ => rw [mem_nil] at h; cases h
    | a :: l, hl =>
      rw [mem] at h
      simp only [List.length_cons] at hl ⊢
      split at h
      · split at h
        · injection h with h; injection h with _ h; subst h; omega
        · cases h
      · split at h
        · have := ih _ _ _ _ _ (by rw [List.length_drop]; omega) h
          rw [List.length_drop] at this; omega
        · have := ih _ _ _ _ _ (by omega) h
          omega

/-- a set behind its [ : with or without a byte 33 -/
def sect (l : List Nat) : Option ((Nat → Bool) × List Nat) :=
  if l.head? = some 33 then (mem (l.drop 1) (fun _ => false) false).map (fun x => (fun y => !x.1 y, x.2)) else mem l (fun _ => false) false
theorem sect_len {l : List Nat} {Q : Nat → Bool} {r : List Nat} (h : sect l = some (Q, r)) : r.length < l.length := by
  unfold sect at h
  split at h
  · rename_i h0
    rcases hm : mem (l.drop 1) (fun _ => false) false with _ | ⟨Q', r'⟩
    · rw [hm] at h; cases h
    · rw [hm] at h
      have := mem_len _ _ _ _ _ _ (Nat.le_refl _) hm
      rw [List.length_drop] at this
      simp only [Option.map_some, Option.some.injEq, Prod.mk.injEq] at h
      obtain ⟨_, rfl⟩ := h
      omega
  · exact mem_len _ _ _ _ _ _ (Nat.le_refl _) h
/-- the first mark, and what stands behind it -/
def fst1 : List Nat → Option (Mk Nat × List Nat)
  | [] => none
  | m :: l => if m = 42 then some (.many, l) else if m = 63 then some (.one (sp 0 255), l) else if m = 91 then (sect l).map (fun x => (.one x.1, x.2)) else some (.one (sp m m), l)
theorem fst1_cons (m : Nat) (l : List Nat) : fst1 (m :: l) = if m = 42 then some (.many, l) else if m = 63 then some (.one (sp 0 255), l) else if m = 91 then (sect l).map (fun x => (.one x.1, x.2)) else some (.one (sp m m), l) := rfl
theorem fst1_len {l : List Nat} {x : Mk Nat} {r : List Nat} (h : fst1 l = some (x, r)) : r.length < l.length := by
  match l with
  | [] => cases h
  | m :: l =>
    rw [fst1_cons] at h
    simp only [List.length_cons]
    split at h
    · simp only [Option.some.injEq, Prod.mk.injEq] at h
      obtain ⟨_, rfl⟩ := h
      omega
    · split at h
      · simp only [Option.some.injEq, Prod.mk.injEq] at h
        obtain ⟨_, rfl⟩ := h
        omega
      · split at h
        · rcases hs : sect l with _ | ⟨Q, r'⟩
          · rw [hs] at h; cases h
          · rw [hs] at h
            have := sect_len hs
            simp only [Option.map_some, Option.some.injEq, Prod.mk.injEq] at h
            obtain ⟨_, rfl⟩ := h
            omega
        · simp only [Option.some.injEq, Prod.mk.injEq] at h
          obtain ⟨_, rfl⟩ := h
          omega
/-- all marks -/
def prs : Nat → List Nat → Option (List (Mk Nat))
  | _, [] => some []
  | 0, _ :: _ => none
  | n + 1, a :: l => match fst1 (a :: l) with
    | none => none
    | some (x, r) => (prs n r).map (x :: ·)
theorem prs_fuel : ∀ (n m : Nat) (l : List Nat), l.length ≤ n → l.length ≤ m → prs n l = prs m l := by
  intro n
  induction n with
  | zero =>
    intro m l h1 h2
    obtain rfl : l = [] := List.eq_nil_of_length_eq_zero (by omega)
    cases m <;> rfl
  | succ n ih =>
    intro m l h1 h2
    match l, h1, h2 with
    | [], _, _ => cases m <;> rfl
    | a :: l, h1, h2 =>
      match m, h2 with
      | 0, h2 => simp at h2
      | m + 1, h2 =>
        unfold prs
        rcases h : fst1 (a :: l) with _ | ⟨x, r⟩
        · rfl
        · have := fst1_len h
          simp only [List.length_cons] at h1 h2 this
          show (prs n r).map _ = (prs m r).map _
          rw [ih m r (by omega) (by omega)]
/-- a part's marks; none: it is none -/
def marks (l : List Nat) : Option (List (Mk Nat)) := if 1 ≤ l.length ∧ l.length ≤ 64 then prs l.length l else none
end Globm
