/-
  Plain facts on how many pages a file takes, and on rows of rising numbers. Nothing of the program stands here.
-/
import Derived.Test.YtaohkakefdhecaaInoMath
namespace Roomm
open Crcm Tagm Inom

/-- the row rises -/
def ris (l : List Int) : Prop := ∀ i, i < l.length - 1 → l.getD i 0 < l.getD (i + 1) 0
instance (l : List Int) : Decidable (ris l) := by unfold ris; infer_instance
theorem ris_at {l : List Int} (h : ris l) {i : Nat} (hi : i + 1 < l.length) : l.getD i 0 < l.getD (i + 1) 0 := h i (by omega)
theorem ris_nil : ris [] := fun i hi => absurd hi (by simp)

theorem ris_lt {l : List Int} (h : ris l) : ∀ d i, i + 1 + d < l.length → l.getD i 0 < l.getD (i + 1 + d) 0
  | 0, i, hi => ris_at h hi
  | d + 1, i, hi => Int.lt_trans (ris_lt h d i (by omega)) (ris_at h (i := i + 1 + d) (by omega))
theorem ris_lt' {l : List Int} (h : ris l) {i j : Nat} (hij : i < j) (hj : j < l.length) : l.getD i 0 < l.getD j 0 := by
  have := ris_lt h (j - i - 1) i (by omega)
  rwa [show i + 1 + (j - i - 1) = j by omega] at this
theorem mem_getD {l : List Int} {x : Int} (h : x ∈ l) : ∃ i, i < l.length ∧ l.getD i 0 = x := by
  obtain ⟨i, hi, e⟩ := List.getElem_of_mem h
  exact ⟨i, hi, by rw [List.getD_eq_getElem?_getD, List.getElem?_eq_getElem hi]; exact e⟩
theorem getD_mem {l : List Int} {i : Nat} (h : i < l.length) : l.getD i 0 ∈ l := by
  rw [List.getD_eq_getElem?_getD, List.getElem?_eq_getElem h]; exact List.getElem_mem h
theorem ris_pairwise {l : List Int} (h : ris l) : l.Pairwise (· < ·) := by
  rw [List.pairwise_iff_getElem]
  intro i j hi hj hij
  have := ris_lt' h hij hj
  rwa [List.getD_eq_getElem?_getD, List.getElem?_eq_getElem hi, List.getD_eq_getElem?_getD, List.getElem?_eq_getElem hj] at this
theorem ris_of_pairwise {l : List Int} (h : l.Pairwise (· < ·)) : ris l := by
  rw [List.pairwise_iff_getElem] at h
  intro i hi
  have hi1 : i + 1 < l.length := by omega
  have := h i (i + 1) (by omega) hi1 (by omega)
  rwa [List.getD_eq_getElem?_getD, List.getElem?_eq_getElem (by omega : i < l.length), List.getD_eq_getElem?_getD, List.getElem?_eq_getElem hi1]

/-- two rising rows of the same numbers are the same -/
theorem pairwise_ext : ∀ {l m : List Int}, l.Pairwise (· < ·) → m.Pairwise (· < ·) → (∀ x, x ∈ l ↔ x ∈ m) → l = m
  | [], [], _, _, _ => rfl
  | [], y :: m, _, _, h => absurd ((h y).2 (by simp)) (by simp)
  | x :: l, [], _, _, h => absurd ((h x).1 (by simp)) (by simp)
  | x :: l, y :: m, hl, hm, h => by
    obtain ⟨hx, hl'⟩ := List.pairwise_cons.1 hl
    obtain ⟨hy, hm'⟩ := List.pairwise_cons.1 hm
    have e : x = y := by
      rcases List.mem_cons.1 ((h x).1 (by simp)) with e | e
      · exact e
      · rcases List.mem_cons.1 ((h y).2 (by simp)) with e' | e'
        · exact e'.symm
        · have := hy x e; have := hx y e'; omega
    subst e
    congr 1
    refine pairwise_ext hl' hm' fun z => ⟨fun hz => ?_, fun hz => ?_⟩
    · rcases List.mem_cons.1 ((h z).1 (List.mem_cons_of_mem _ hz)) with e | e
      · have := hx z hz; omega
      · exact e
    · rcases List.mem_cons.1 ((h z).2 (List.mem_cons_of_mem _ hz)) with e | e
      · have := hy z hz; omega
      · exact e

theorem nodup_le : ∀ {l m : List Int}, l.Pairwise (· < ·) → (∀ x ∈ l, x ∈ m) → l.length ≤ m.length
  | [], _, _, _ => Nat.zero_le _
  | x :: l, m, hl, h => by
    obtain ⟨hx, hl⟩ := List.pairwise_cons.1 hl
    have hxm : x ∈ m := h x (by simp)
    have := nodup_le (m := m.erase x) hl (fun z hz => (List.mem_erase_of_ne (by have := hx z hz; omega)).2 (h z (List.mem_cons_of_mem _ hz)))
    rw [List.length_erase_of_mem hxm] at this
    have := List.length_pos_of_mem hxm
    simp; omega

/-- pages with a way of level 1 · of level 2 · of level 2 over one pointer page -/
def l1 (s : Int) (l : List Int) : Nat := if l.any (fun n => decide (lv s n = 1)) then 1 else 0
def dd (s : Int) (l : List Int) : Nat := if l.any (fun n => decide (lv s n = 2)) then 1 else 0
def at2 (s : Int) (l : List Int) (f : Nat) : Bool := l.any fun n => decide (lv s n = 2 ∧ fi s n = (f : Int))
def k2 (s : Int) (l : List Int) : Nat := ((List.range 256).filter (at2 s l)).length
/-- how many pages a file takes -/
def cnt (s : Int) (l : List Int) : Nat := l.length + (l1 s l + k2 s l) + dd s l

theorem l1_snoc (s : Int) (l : List Int) (n : Int) : l1 s (l ++ [n]) = if lv s n = 1 then 1 else l1 s l := by
  unfold l1; by_cases h : lv s n = 1 <;> simp [h]
theorem dd_snoc (s : Int) (l : List Int) (n : Int) : dd s (l ++ [n]) = if lv s n = 2 then 1 else dd s l := by
  unfold dd; by_cases h : lv s n = 2 <;> simp [h]
theorem at2_snoc (s : Int) (l : List Int) (n : Int) (f : Nat) : at2 s (l ++ [n]) f = (at2 s l f || decide (lv s n = 2 ∧ fi s n = (f : Int))) := by
  unfold at2; simp
theorem filter_one {p q : Nat → Bool} {g : Nat} (hpq : ∀ f, q f = (p f || decide (f = g))) : ∀ (l : List Nat), l.Nodup → (l.filter q).length = (l.filter p).length + if g ∈ l ∧ p g = false then 1 else 0
  | [], _ => by simp
  | x :: l, hn => by
    obtain ⟨hx, hn⟩ := List.nodup_cons.1 hn
    have ih := filter_one hpq l hn
    rw [List.filter_cons, List.filter_cons, hpq x]
    by_cases hxg : x = g
    · subst hxg
      rw [if_neg (fun h => hx h.1)] at ih
      cases hp : p x <;> simp [ih]
    · cases hp : p x
      · simp [hxg, ih, Ne.symm hxg]
      · simp [hxg, ih, Ne.symm hxg]; omega
theorem k2_snoc_other {s : Int} (l : List Int) {n : Int} (h : lv s n ≠ 2) : k2 s (l ++ [n]) = k2 s l := by
  unfold k2
  congr 2
  funext f
  rw [at2_snoc]; simp [h]
theorem k2_snoc {s : Int} (l : List Int) {n : Int} {g : Nat} (h : lv s n = 2) (hf : fi s n = (g : Int)) (hg : g < 256) : k2 s (l ++ [n]) = k2 s l + if at2 s l g = false then 1 else 0 := by
  unfold k2
  rw [filter_one (p := at2 s l) (q := at2 s (l ++ [n])) (g := g) (fun f => by rw [at2_snoc]; congr 1; rw [h, hf]; simp; omega) _ List.nodup_range]
  simp [hg]

theorem any_mono {p : Int → Bool} {l m : List Int} (h : ∀ x ∈ l, x ∈ m) (ha : l.any p = true) : m.any p = true := by
  rw [List.any_eq_true] at ha ⊢
  obtain ⟨x, hx, hp⟩ := ha
  exact ⟨x, h x hx, hp⟩
theorem filter_mono {p q : Nat → Bool} (h : ∀ f, p f = true → q f = true) : ∀ (l : List Nat), (l.filter p).length ≤ (l.filter q).length
  | [] => by simp
  | x :: l => by
    have ih := filter_mono h l
    rw [List.filter_cons, List.filter_cons]
    cases hp : p x
    · cases hq : q x <;> simp <;> omega
    · simp [h x hp]; omega
theorem l1_mono {s : Int} {l m : List Int} (h : ∀ x ∈ l, x ∈ m) : l1 s l ≤ l1 s m := by
  unfold l1
  by_cases a : l.any (fun n => decide (lv s n = 1)) = true
  · rw [if_pos a, if_pos (any_mono h a)]; exact Nat.le_refl _
  · rw [if_neg a]; exact Nat.zero_le _
theorem dd_mono {s : Int} {l m : List Int} (h : ∀ x ∈ l, x ∈ m) : dd s l ≤ dd s m := by
  unfold dd
  by_cases a : l.any (fun n => decide (lv s n = 2)) = true
  · rw [if_pos a, if_pos (any_mono h a)]; exact Nat.le_refl _
  · rw [if_neg a]; exact Nat.zero_le _
theorem k2_mono {s : Int} {l m : List Int} (h : ∀ x ∈ l, x ∈ m) : k2 s l ≤ k2 s m := filter_mono (fun _ hf => any_mono h hf) _
theorem cnt_mono {s : Int} {l m : List Int} (hl : ris l) (h : ∀ x ∈ l, x ∈ m) : cnt s l ≤ cnt s m := by
  have := nodup_le (ris_pairwise hl) h
  have := l1_mono (s := s) h
  have := dd_mono (s := s) h
  have := k2_mono (s := s) h
  unfold cnt; omega
theorem l1_le (s : Int) (l : List Int) : l1 s l ≤ 1 := by unfold l1; split <;> omega
theorem dd_le (s : Int) (l : List Int) : dd s l ≤ 1 := by unfold dd; split <;> omega
theorem filter_le_one {p q : Nat → Bool} {g : Nat} (hpq : ∀ f, q f = true → p f = true ∨ f = g) (l : List Nat) (hn : l.Nodup) : (l.filter q).length ≤ (l.filter p).length + 1 := by
  have h1 := filter_mono (p := q) (q := fun f => p f || decide (f = g)) (fun f hf => by rcases hpq f hf with h | h <;> simp [h]) l
  rw [filter_one (p := p) (g := g) (fun f => rfl) l hn] at h1
  split at h1 <;> omega
theorem k2_le_one {s : Int} {l m : List Int} {one : Int} (h : ∀ x ∈ m, x ∈ l ∨ x = one) : k2 s m ≤ k2 s l + 1 := by
  refine filter_le_one (g := (fi s one).toNat) (fun f hf => ?_) _ List.nodup_range
  unfold at2 at hf ⊢
  rw [List.any_eq_true] at hf
  obtain ⟨x, hx, hp⟩ := hf
  rcases h x hx with h | rfl
  · exact .inl (List.any_eq_true.2 ⟨x, h, hp⟩)
  · right; simp at hp; omega
theorem cnt_one {s : Int} {l m : List Int} {one : Int} (hm : ris m) (h : ∀ x ∈ m, x ∈ l ∨ x = one) : cnt s m ≤ cnt s l + 4 := by
  have h1 := nodup_le (m := one :: l) (ris_pairwise hm) (fun x hx => by rcases h x hx with h | h <;> simp [h])
  have := l1_le s m
  have := dd_le s m
  have := k2_le_one (s := s) h
  simp at h1
  unfold cnt; omega

/-- the row, and what is told of it -/
def fE (s : Int) (l : List Int) : Int := if Sz s ∧ ris l then (if ∀ n ∈ l, toE s n = 0 then 0 else 52) else 1
def fN (s : Int) (l : List Int) : Int := if fE s l = 0 then (cnt s l : Int) else 0

theorem fE_no {s : Int} {l : List Int} (h : ¬ (Sz s ∧ ris l)) : fE s l = 1 := by unfold fE; rw [if_neg h]
theorem fE_bad {s : Int} {l : List Int} (h : Sz s ∧ ris l) (h2 : ¬ ∀ n ∈ l, toE s n = 0) : fE s l = 52 := by unfold fE; rw [if_pos h, if_neg h2]
theorem fE_ok {s : Int} {l : List Int} (h : Sz s ∧ ris l) (h2 : ∀ n ∈ l, toE s n = 0) : fE s l = 0 := by unfold fE; rw [if_pos h, if_pos h2]
theorem fN_no {s : Int} {l : List Int} (h : ¬ (Sz s ∧ ris l)) : fN s l = 0 := by unfold fN; rw [fE_no h]; rfl
theorem fN_bad {s : Int} {l : List Int} (h : Sz s ∧ ris l) (h2 : ¬ ∀ n ∈ l, toE s n = 0) : fN s l = 0 := by unfold fN; rw [fE_bad h h2]; rfl
theorem fN_ok {s : Int} {l : List Int} (h : Sz s ∧ ris l) (h2 : ∀ n ∈ l, toE s n = 0) : fN s l = (cnt s l : Int) := by unfold fN; rw [fE_ok h h2]; rfl
theorem fE_iff {s : Int} {l : List Int} : fE s l = 0 ↔ (Sz s ∧ ris l) ∧ ∀ n ∈ l, toE s n = 0 := by
  by_cases h : Sz s ∧ ris l
  · by_cases h2 : ∀ n ∈ l, toE s n = 0
    · rw [fE_ok h h2]; exact ⟨fun _ => ⟨h, h2⟩, fun _ => rfl⟩
    · rw [fE_bad h h2]; exact ⟨fun e => by omega, fun e => absurd e.2 h2⟩
  · rw [fE_no h]; exact ⟨fun e => by omega, fun e => absurd e.1 h⟩

theorem lv_cases {s n : Int} : lv s n = 0 ∨ lv s n = 1 ∨ lv s n = 2 := by unfold lv; split; exact .inl rfl; split; exact .inr (.inl rfl); exact .inr (.inr rfl)
theorem lv_mono {s n m : Int} (h : n ≤ m) : lv s n ≤ lv s m := by
  unfold lv; split <;> split <;> (try split) <;> (try split) <;> omega
theorem lv2 {s n : Int} (h : lv s n = 2) : 6 + s / 2 ≤ n ∧ fi s n = (n - 6 - s / 2) / (s / 2) := by
  have h1 : ¬ n < 6 := by intro g; unfold lv at h; rw [if_pos g] at h; omega
  have h2 : ¬ n < 6 + s / 2 := by intro g; unfold lv at h; rw [if_neg h1, if_pos g] at h; omega
  exact ⟨by omega, by unfold fi; rw [if_neg h1, if_neg h2]⟩
theorem fi_mono {s n m : Int} (hs : Sz s) (h : n ≤ m) (h2 : lv s n = 2) (h3 : lv s m = 2) : fi s n ≤ fi s m := by
  rw [(lv2 h2).2, (lv2 h3).2]
  rcases hs with rfl | rfl | rfl | rfl <;> omega
theorem fi_lt {s n : Int} (h : toE s n = 0) (h2 : lv s n = 2) : 0 ≤ fi s n ∧ fi s n < 256 := by
  obtain ⟨hs, h0, h1⟩ := toE_iff.1 h
  have h3 := lv2 h2
  rw [h3.2]
  have h4 := h3.1
  rcases hs with rfl | rfl | rfl | rfl <;>
  · simp only [pgs, Int.reduceDiv, Int.reduceAdd, Int.reduceMul] at *
    omega
theorem fi_any {s n : Int} (h : toE s n = 0) : 0 ≤ fi s n ∧ fi s n < 256 := by
  obtain ⟨hs, h0, h1⟩ := toE_iff.1 h
  rcases hs with rfl | rfl | rfl | rfl <;>
  · unfold fi
    simp only [pgs, Int.reduceDiv, Int.reduceAdd, Int.reduceMul] at *
    split
    · omega
    · split <;> omega

end Roomm
