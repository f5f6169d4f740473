/-
  Patterns without marks: mathematics.
-/
import Derived.Test.YtaielamimkigmaaGlobBegM
import Derived.Test.YtaielamimkigmaaStrSame
namespace Globm
def pb (b : Nat) : Prop := b ≠ 63 ∧ b ≠ 42 ∧ b ≠ 91 ∧ b ≠ 47
theorem prs_plain : ∀ (n : Nat) (l : List Nat), l.length ≤ n → (∀ b ∈ l, b ≠ 63 ∧ b ≠ 42 ∧ b ≠ 91) → prs n l = some (l.map fun b => Mk.one (sp b b)) := by
  intro n
  induction n with
  | zero =>
    intro l h _
    obtain rfl : l = [] := List.eq_nil_of_length_eq_zero (by omega)
    rfl
  | succ n ih =>
    intro l h hp
    match l, h, hp with
    | [], _, _ => rfl
    | a :: l, h, hp =>
      obtain ⟨h1, h2, h3⟩ := hp a (by simp)
      unfold prs
      rw [fst1_cons, if_neg h2, if_neg h1, if_neg h3]
      show (prs n l).map _ = _
      rw [ih l (by simp at h; omega) (fun b hb => hp b (by simp [hb]))]
      rfl
theorem marks_plain {l : List Nat} (h1 : 1 ≤ l.length) (h2 : l.length ≤ 64) (h : ∀ b ∈ l, b ≠ 63 ∧ b ≠ 42 ∧ b ≠ 91) : marks l = some (l.map fun b => Mk.one (sp b b)) := by
  unfold marks
  rw [if_pos ⟨h1, h2⟩]
  exact prs_plain _ l (Nat.le_refl _) h
theorem mt_plain : ∀ (l s : List Nat), Mt (l.map fun b => Mk.one (sp b b)) s ↔ s = l
  | [], s => mt_nil
  | b :: l, s => by
    rw [List.map_cons, mt_one]
    constructor
    · rintro ⟨x, t, rfl, h1, h2⟩
      have := (mt_plain l t).1 h2
      unfold sp at h1
      have := of_decide_eq_true h1
      rw [show x = b by omega, (mt_plain l t).1 h2]
    · rintro rfl
      exact ⟨b, l, rfl, decide_eq_true ⟨Nat.le_refl _, Nat.le_refl _⟩, (mt_plain l l).2 rfl⟩
end Globm
namespace Go.Proofs.Ytaielamimkigmaa
open Go.RowKit Go.ChangeShapes Globm Go.ChangeMaps

/-- a part without marks -/
def Pln (t : ByteArray) : Prop := 1 ≤ t.size ∧ t.size ≤ 64 ∧ ∀ b ∈ by8 t, pb b
theorem toNats_inj : ∀ (a b : List UInt8), a.map (·.toNat) = b.map (·.toNat) → a = b
  | [], [], _ => rfl
  | [], y :: b, h => by simp at h
  | x :: a, [], h => by simp at h
  | x :: a, y :: b, h => by
    simp only [List.map_cons, List.cons.injEq] at h
    rw [UInt8.toNat_inj.1 h.1, toNats_inj a b h.2]
theorem by8_inj {x y : ByteArray} (h : by8 x = by8 y) : x = y := by
  unfold by8 at h
  have : x.data.toList = y.data.toList := by
    exact toNats_inj _ _ h
  exact ByteArray.ext (Array.toList_inj.1 this)
theorem pln_marks {t : ByteArray} (h : Pln t) : marks (by8 t) = some ((by8 t).map fun b => Mk.one (sp b b)) :=
  marks_plain (by rw [by8_length]; exact h.1) (by rw [by8_length]; exact h.2.1) (fun b hb => ⟨(h.2.2 b hb).1, (h.2.2 b hb).2.1, (h.2.2 b hb).2.2.1⟩)
theorem pln_any {t : ByteArray} (h : Pln t) : isAny t = false := by
  cases hA : isAny t with
  | false => rfl
  | true =>
    have := any_text hA
    subst this
    have := (h.2.2 42 (by decide)).2.1
    exact absurd rfl this
theorem pln_fits {t x : ByteArray} (h : Pln t) : fitsT t x = true ↔ x = t := by
  unfold fitsT
  rw [pln_marks h]
  show cv _ _ _ 0 0 = true ↔ _
  rw [cv_mt, mt_plain]
  exact ⟨fun e => by8_inj e, fun e => by rw [e]⟩
theorem pln_mt : ∀ (l s : List ByteArray), (∀ t ∈ l, Pln t) → (Mt (l.map pk) s ↔ s = l)
  | [], s, _ => mt_nil
  | t :: l, s, h => by
    have hp : pk t = .one (fitsT t) := by unfold pk; rw [pln_any (h t (by simp))]; rfl
    rw [List.map_cons, hp, mt_one]
    have ih := fun s => pln_mt l s (fun x hx => h x (by simp [hx]))
    constructor
    · rintro ⟨x, r, rfl, h1, h2⟩
      rw [(pln_fits (h t (by simp))).1 h1, (ih r).1 h2]
    · rintro rfl
      exact ⟨t, l, rfl, (pln_fits (h t (by simp))).2 rfl, (ih l).2 rfl⟩
theorem pln_cv {l s : List ByteArray} (h : ∀ t ∈ l, Pln t) : cv (l.map pk) s (fun _ => false) 0 0 = decide (l = s) := by
  rw [Bool.eq_iff_iff, cv_mt, pln_mt l s h, decide_eq_true_iff]
  exact eq_comm

/-- the names between bytes 47 -/
def gl (l : List ByteArray) : ByteArray := l.foldl (fun s x => s ++ x ++ ⟨#[47]⟩) ⟨#[47]⟩
theorem gl_snoc (l : List ByteArray) (x : ByteArray) : gl (l ++ [x]) = gl l ++ x ++ ⟨#[47]⟩ := by unfold gl; rw [List.foldl_append]; rfl
theorem gl_list0 : ∀ (l : List ByteArray) (s : ByteArray), (l.foldl (fun s x => s ++ x ++ ⟨#[47]⟩) s).data.toList = s.data.toList ++ l.flatMap fun x => x.data.toList ++ [47]
  | [], s => by simp
  | x :: l, s => by
    rw [List.foldl_cons, gl_list0 l]
    simp [ByteArray.data_append]
theorem gl_list (l : List ByteArray) : (gl l).data.toList = 47 :: l.flatMap fun x => x.data.toList ++ [47] := by unfold gl; rw [gl_list0]; rfl
theorem gl_pcs : ∀ (l : List ByteArray), (∀ t ∈ l, Pln t) → pcs (l.flatMap fun x => x.data.toList ++ [47]) = l.map (·.data.toList) ++ [[]]
  | [], _ => rfl
  | x :: l, h => by
    rw [List.flatMap_cons, List.append_assoc]
    show pcs (x.data.toList ++ 47 :: l.flatMap fun x => x.data.toList ++ [47]) = _
    rw [pcs_cut (fun b hb => by
      have := (h x (by simp)).2.2 b.toNat (by unfold by8; exact List.mem_map_of_mem hb)
      intro e; subst e; exact this.2.2.2 rfl), gl_pcs l (fun t ht => h t (by simp [ht]))]
    rfl
theorem gl_parts {l : List ByteArray} (h : ∀ t ∈ l, Pln t) : parts (gl l) = l := by
  refine map_inj ?_
  rw [parts_pcs, gl_list]
  show ne (if (47 : UInt8) = 47 then [] :: pcs (l.flatMap fun x => x.data.toList ++ [47]) else _) = _
  rw [if_pos rfl, gl_pcs l h, ne_cons, if_pos rfl, ne_append]
  have h2 : ne [[]] = [] := rfl
  rw [h2, List.append_nil]
  unfold ne
  rw [List.filter_eq_self]
  intro p hp
  obtain ⟨x, hx, rfl⟩ := List.mem_map.1 hp
  have := (h x hx).1
  rcases hx2 : x.data.toList with _ | _
  · have h0 : x.size = 0 := by rw [← by8_length]; unfold by8; rw [hx2]; rfl
    omega
  · rfl
theorem gl_sl (l : List ByteArray) : slB (gl l) = true := by
  unfold slB
  rw [gl_list]; rfl
theorem gl_size : ∀ (l : List ByteArray) (s : ByteArray) (n : Nat), (∀ t ∈ l, t.size ≤ n) → (l.foldl (fun s x => s ++ x ++ ⟨#[47]⟩) s).size ≤ s.size + l.length * (n + 1)
  | [], s, n, _ => by simp
  | x :: l, s, n, h => by
    rw [List.foldl_cons]
    have h1 := gl_size l (s ++ x ++ ⟨#[47]⟩) n (fun t ht => h t (by simp [ht]))
    have h2 := h x (by simp)
    rw [ByteArray.size_append, ByteArray.size_append] at h1
    have h3 : (⟨#[47]⟩ : ByteArray).size = 1 := rfl
    rw [h3] at h1
    rw [List.length_cons, Nat.add_mul]
    omega
theorem gl_few {l : List ByteArray} (h : ∀ t ∈ l, t.size ≤ 64) (hl : l.length ≤ 16) : (gl l).size ≤ 1041 := by
  have := gl_size l ⟨#[47]⟩ 64 h
  have h3 : (⟨#[47]⟩ : ByteArray).size = 1 := rfl
  rw [h3] at this
  unfold gl
  omega
theorem gl_nwE {l : List ByteArray} (h : ∀ t ∈ l, Pln t) (hl : l.length ≤ 16) : nwE (gl l) = if 255 < (gl l).size then 30 else 0 := by
  unfold nwE
  rw [gl_sl, gl_parts h]
  by_cases h2 : 255 < (gl l).size
  · rw [if_pos (.inl h2), if_pos h2]
  · rw [if_neg (by simp; omega), if_neg (by omega), if_neg h2, if_pos]
    unfold okP
    rw [List.all_eq_true]
    intro t ht
    rw [pln_marks (h t ht)]; rfl
end Go.Proofs.Ytaielamimkigmaa
