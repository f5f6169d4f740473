/-
  Names joined by bytes 47: what is joined has these parts. Nothing of one statement alone stands here.
-/
import Derived.Test.YtkhfobliclfhcaaPathSlash
import Derived.Lib.Join
namespace Go.Proofs.Ytkhfobliclfhcaa
open Go.RowKit Go.ChangeShapes

def jl (l : List ByteArray) : List UInt8 := (l.map (fun x => 47 :: x.data.toList)).flatten
/-- texts, a byte 47 ahead of each -/
def jn (l : List ByteArray) : ByteArray := ⟨(jl l).toArray⟩
theorem jl_app (l : List ByteArray) (x : ByteArray) : jl (l ++ [x]) = jl l ++ 47 :: x.data.toList := by simp [jl]
theorem jl_cons (x : ByteArray) (l : List ByteArray) : jl (x :: l) = 47 :: (x.data.toList ++ jl l) := by simp [jl]
theorem jn_list (l : List ByteArray) : (jn l).data.toList = jl l := rfl
theorem jn_size (l : List ByteArray) : (jn l).size = (jl l).length := by simp [jn, ByteArray.size]
theorem jn_more (l : List ByteArray) (x : ByteArray) : jn l ++ ⟨#[47]⟩ ++ x = jn (l ++ [x]) := by
  apply ByteArray.ext
  apply Array.toList_inj.1
  rw [app_list, app_list, jn_list, jn_list, jl_app, List.append_assoc]
  rfl
theorem jl_len {l : List ByteArray} (h : ∀ x ∈ l, x.size ≤ 13) : (jl l).length ≤ 14 * l.length := by
  induction l with
  | nil => exact Nat.le_refl _
  | cons x r ih =>
    have h1 := h x (by simp)
    have h2 := ih fun y hy => h y (by simp [hy])
    have h3 : x.data.toList.length = x.size := Array.length_toList
    rw [jl_cons, List.length_cons, List.length_append, List.length_cons]
    omega
theorem join_jl (x : ByteArray) (r : List ByteArray) : 47 :: Lib.join ((x :: r).map (·.data.toList)) [47] = jl (x :: r) := by
  rw [List.map_cons, Lib.join_cons, jl_cons]
  congr 2
  induction r with
  | nil => rfl
  | cons y r ih =>
    rw [jl_cons, ← ih]
    simp [Lib.joinTail]
theorem jn_join (x : ByteArray) (r : List ByteArray) : (⟨#[47]⟩ : ByteArray) ++ ⟨(Lib.join ((x :: r).map (·.data.toList)) [47]).toArray⟩ = jn (x :: r) := by
  apply ByteArray.ext
  apply Array.toList_inj.1
  rw [app_list, jn_list, ← join_jl]
  rfl

/-- why names are not joined (0: they are) -/
def joinE (l : List ByteArray) : Int := if ∀ x ∈ l, Nm x then (if 16 < l.length then 30 else 0) else 31
/-- names joined -/
def joinS (l : List ByteArray) : ByteArray := if joinE l = 0 then (if l = [] then ⟨#[47]⟩ else jn l) else ⟨#[]⟩
theorem joinE_not {l : List ByteArray} (h : ¬ ∀ x ∈ l, Nm x) : joinE l = 31 := if_neg h
theorem joinE_many {l : List ByteArray} (h : ∀ x ∈ l, Nm x) (g : 16 < l.length) : joinE l = 30 := by unfold joinE; rw [if_pos h, if_pos g]
theorem joinE_yes {l : List ByteArray} (h : ∀ x ∈ l, Nm x) (g : ¬ 16 < l.length) : joinE l = 0 := by unfold joinE; rw [if_pos h, if_neg g]
theorem joinE_zero {l : List ByteArray} (h : joinE l = 0) : (∀ x ∈ l, Nm x) ∧ l.length ≤ 16 := by
  by_cases h1 : ∀ x ∈ l, Nm x
  · by_cases h2 : 16 < l.length
    · rw [joinE_many h1 h2] at h; cases h
    · exact ⟨h1, by omega⟩
  · rw [joinE_not h1] at h; cases h
theorem joinS_not {l : List ByteArray} (h : joinE l ≠ 0) : joinS l = ⟨#[]⟩ := if_neg h
theorem joinS_none {l : List ByteArray} (h : l = []) : joinS l = ⟨#[47]⟩ := by subst h; rfl
theorem joinS_some {l : List ByteArray} (h : joinE l = 0) (g : l ≠ []) : joinS l = jn l := by unfold joinS; rw [if_pos h, if_neg g]

theorem nm_no47 {x : ByteArray} (h : Nm x) : ∀ b ∈ x.data.toList, b ≠ 47 := (indexByte_lt0 _ _).1 h.2.2.2.1
theorem nm_ne {x : ByteArray} (h : Nm x) : x.data.toList ≠ [] := fun g => by
  have h1 := h.1.1
  have h3 : x.data.toList.length = x.size := Array.length_toList
  rw [g] at h3
  simp at h3
  omega
theorem ne_jl {l : List ByteArray} (h : ∀ x ∈ l, Nm x) : ne (pcs (jl l)) = l.map (·.data.toList) := by
  induction l with
  | nil => rfl
  | cons x r ih =>
    have hx := h x (by simp)
    have ih := ih fun y hy => h y (by simp [hy])
    have hp := pcs_no (nm_no47 hx)
    have h0 := pcs_at [] (x.data.toList ++ jl r)
    rw [List.nil_append] at h0
    rw [jl_cons, h0, ne_append, ne_nil, List.nil_append, List.map_cons]
    cases r with
    | nil =>
      have : jl [] = [] := rfl
      rw [this, List.append_nil, hp, ne_cons, if_neg (nm_ne hx)]
      rfl
    | cons y r =>
      have h1 := pcs_at [] (y.data.toList ++ jl r)
      rw [List.nil_append] at h1
      rw [jl_cons, h1, ne_append, ne_nil, List.nil_append] at ih
      rw [jl_cons, pcs_at, ne_append, hp, ne_cons, if_neg (nm_ne hx), ih]
      rfl
/-- what is joined has the names as parts -/
theorem parts_jn {l : List ByteArray} (h : ∀ x ∈ l, Nm x) : parts (jn l) = l := map_inj (by rw [parts_pcs, jn_list, ne_jl h])
theorem slB_jn {l : List ByteArray} (h : l ≠ []) : slB (jn l) = true := by
  cases l with
  | nil => exact absurd rfl h
  | cons x r =>
    unfold slB
    rw [jn_list, jl_cons]
    rfl
theorem chk_all {l : List ByteArray} (h : ∀ x ∈ l, Nm x) (g : l.length ≤ 16) (k : Nat) (hk : k ≤ l.length) : chk l k = 0 := by
  induction k with
  | zero => rfl
  | succ k ih =>
    have hl : k < l.length := by omega
    have hgd : l.getD k ⟨#[]⟩ = l[k] := by simp [List.getD_eq_getElem?_getD, hl]
    exact chk_name (ih (by omega)) (by rw [hgd]; exact h _ (List.getElem_mem hl)) (by omega)
theorem chk_back {l : List ByteArray} (k : Nat) (hk : k ≤ l.length) (h : chk l k = 0) : (∀ j (hj : j < l.length), j < k → Nm l[j]) ∧ k ≤ 16 := by
  induction k with
  | zero => exact ⟨fun j _ g => absurd g (Nat.not_lt_zero _), by omega⟩
  | succ k ih =>
    have hl : k < l.length := by omega
    have hgd : l.getD k ⟨#[]⟩ = l[k] := by simp [List.getD_eq_getElem?_getD, hl]
    have h0 : chk l k = 0 := by
      by_cases g : chk l k = 0
      · exact g
      · rw [chk_stays g (Nat.le_succ k)] at h; exact h
    by_cases hn : Nm (l.getD k ⟨#[]⟩)
    · by_cases h15 : 15 < k
      · rw [chk_many h0 hn h15] at h; cases h
      · obtain ⟨i1, i2⟩ := ih (by omega) h0
        refine ⟨fun j hj g => ?_, by omega⟩
        by_cases e : j = k
        · subst e; rw [← hgd]; exact hn
        · exact i1 j hj (by omega)
    · rw [chk_not h0 hn] at h; cases h
/-- a path's parts are names, and at most 16 -/
theorem ps_names {s : ByteArray} (h : psE s = 0) : (∀ x ∈ parts s, Nm x) ∧ (parts s).length ≤ 16 ∧ s.size ≤ 255 ∧ slB s = true := by
  by_cases hb : s.size < 1 ∨ 255 < s.size ∨ slB s = false
  · rw [ps_bad hb] at h; cases h
  · have h1 := h
    rw [ps_good hb] at h1
    obtain ⟨i1, i2⟩ := chk_back _ (Nat.le_refl _) h1
    refine ⟨fun x hx => ?_, i2, ?_, ?_⟩
    · obtain ⟨j, hj, rfl⟩ := List.mem_iff_getElem.1 hx
      exact i1 j hj hj
    · exact Nat.le_of_not_lt fun g => hb (.inr (.inl g))
    · cases e : slB s with
      | true => rfl
      | false => exact absurd (.inr (.inr e)) hb
theorem joinE_parts {s : ByteArray} (h : psE s = 0) : joinE (parts s) = 0 := joinE_yes (ps_names h).1 (by have := (ps_names h).2.1; omega)
/-- names joined to a path that is not too long are a path of them -/
theorem ps_join {l : List ByteArray} (h : joinE l = 0) (hs : (joinS l).size ≤ 255) : psE (joinS l) = 0 ∧ parts (joinS l) = l := by
  by_cases e : l = []
  · rw [joinS_none e]; exact ⟨eD, by rw [e]; exact pD⟩
  · obtain ⟨h1, h2⟩ := joinE_zero h
    rw [joinS_some h e] at hs ⊢
    have hp := parts_jn h1
    have hsl := slB_jn e
    have h0 : ¬ (jn l).size < 1 := fun g => by rw [slB_none g] at hsl; cases hsl
    refine ⟨?_, hp⟩
    rw [ps_good (fun g => g.elim h0 fun g => g.elim (by omega) fun g => by rw [hsl] at g; cases g), hp]
    exact chk_all h1 h2 _ (Nat.le_refl _)

def tot (L : List (List UInt8)) : Nat := (L.map (fun p => p.length + 1)).sum
theorem tot_cons (p : List UInt8) (L : List (List UInt8)) : tot (p :: L) = p.length + 1 + tot L := by simp [tot]
theorem tot_pcs (l : List UInt8) : tot (pcs l) = l.length + 1 := by
  induction l with
  | nil => rfl
  | cons b r ih =>
    simp only [pcs]
    by_cases hb : b = 47
    · rw [if_pos hb, tot_cons, ih]; simp; omega
    · rw [if_neg hb]
      cases hp : pcs r with
      | nil => exact absurd hp (pcs_some r)
      | cons p q =>
        rw [hp, tot_cons] at ih
        show tot ((b :: p) :: q) = _
        rw [tot_cons, List.length_cons, List.length_cons]
        omega
theorem tot_ne (L : List (List UInt8)) : tot (ne L) ≤ tot L := by
  induction L with
  | nil => exact Nat.le_refl _
  | cons p L ih =>
    rw [ne_cons, tot_cons]
    split
    · omega
    · rw [tot_cons]; omega
theorem tot_jl (l : List ByteArray) : (jl l).length = tot (l.map (·.data.toList)) := by
  induction l with
  | nil => rfl
  | cons x r ih => rw [jl_cons, List.map_cons, tot_cons, List.length_cons, List.length_append, ih]; omega
/-- a path joined anew is no longer -/
theorem join_short {s : ByteArray} (h : psE s = 0) : (joinS (parts s)).size ≤ s.size := by
  have hsl := (ps_names h).2.2.2
  have h0 : ¬ s.size < 1 := fun g => by rw [slB_none g] at hsl; cases hsl
  by_cases e : parts s = []
  · rw [joinS_none e]; show 1 ≤ s.size; omega
  · rw [joinS_some (joinE_parts h) e, jn_size, tot_jl, parts_pcs]
    unfold slB at hsl
    have hl : s.data.toList.length = s.size := Array.length_toList
    cases hd : s.data.toList with
    | nil => rw [hd] at hsl; cases hsl
    | cons b r =>
      rw [hd] at hsl hl
      have hb : b = 47 := by have := eq_of_beq hsl; simpa using this
      subst hb
      have h1 := pcs_at [] r
      rw [List.nil_append] at h1
      rw [h1, ne_append, ne_nil, List.nil_append]
      have h2 := tot_ne (pcs r)
      rw [tot_pcs] at h2
      rw [List.length_cons] at hl
      omega
end Go.Proofs.Ytkhfobliclfhcaa
