/-
  A right directory's bytes, one slot written, put behind or cleared: on lists. Nothing of one statement alone stands here.
-/
import Derived.Test.YtbgimehbencdgaaDirWhere
import Derived.Test.YtbgimehbencdgaaDirBackM
import Derived.Test.YtbgimehbencdgaaLay
namespace Go.Proofs.Ytbgimehbencdgaa
open Go.RowKit Crcm Tagm Dirm Go.ChangeShapes

theorem kl_inj {s t : ByteArray} (h : kl s = kl t) : s = t := by
  unfold kl at h
  injection h with h
  exact ByteArray.ext (Array.toList_inj.1 h)
theorem nms_key (l : List Int) : ∀ k, ∀ x ∈ nms l k, WideAt.IsKeyLit x
  | 0, x, h => by simp [nms] at h
  | k + 1, x, h => by
    rw [nms] at h
    split at h
    · rcases List.mem_append.1 h with h | h
      · exact nms_key l k x h
      · simp at h; subst h; trivial
    · exact nms_key l k x h
theorem nms_mem (l : List Int) (s : ByteArray) : ∀ k, kl s ∈ nms l k ↔ ∃ j, j < k ∧ rU (slotL l j) = true ∧ eS (slotL l j) = s
  | 0 => by simp [nms]
  | k + 1 => by
    rw [nms]
    split
    · rename_i hu
      rw [List.mem_append, nms_mem l s k]
      constructor
      · rintro (⟨j, hj, h⟩ | h)
        · exact ⟨j, by omega, h⟩
        · simp at h; exact ⟨k, by omega, hu, (kl_inj h).symm⟩
      · rintro ⟨j, hj, h, h2⟩
        by_cases e : j = k
        · subst e; right; simp [h2]
        · exact .inl ⟨j, by omega, h, h2⟩
    · rename_i hu
      rw [nms_mem l s k]
      constructor
      · rintro ⟨j, hj, h⟩; exact ⟨j, by omega, h⟩
      · rintro ⟨j, hj, h, h2⟩
        by_cases e : j = k
        · subst e; exact absurd h hu
        · exact ⟨j, by omega, h, h2⟩
theorem has_Sd (l : List Int) (s : ByteArray) (k : Nat) : Maps.has (Sd l k) (kl s) = true ↔ ∃ j, j < k ∧ rU (slotL l j) = true ∧ eS (slotL l j) = s := by
  unfold Sd
  rw [Maps.has_setOf _ _ _ (nms_key l k), List.any_eq_true, ← nms_mem]
  constructor
  · rintro ⟨x, hx, h⟩
    rwa [WideAt.sameKey_eq h] at hx
  · intro h
    exact ⟨_, h, WideAt.sameKey_self trivial⟩

/-- a right directory -/
structure Rt (l : List Int) (N : Nat) : Prop where
  len : l.length = N * 16
  good : ∀ k, k < N → rE (slotL l k) = 0
  one : ∀ j k, j < k → k < N → rU (slotL l j) = true → rU (slotL l k) = true → eS (slotL l j) ≠ eS (slotL l k)
  last : ∀ k, N = k + 1 → rU (slotL l k) = true

theorem ckF_zero (l : List Int) : ∀ (f k : Nat) (e : Bool), ckF l f k e = 0 ↔ (∀ j, k ≤ j → j < k + f → rE (slotL l j) = 0 ∧ ¬ (rU (slotL l j) = true ∧ Maps.has (Sd l j) (kl (eS (slotL l j))) = true)) ∧ (if f = 0 then e = true else rU (slotL l (k + f - 1)) = true)
  | 0, k, e => by
    rw [ckF]
    cases e
    · simp
    · simp; intro j h1 h2; omega
  | f + 1, k, e => by
    rw [ckF]
    split
    · rename_i h
      simp only [show (50 : Int) = 0 ↔ False from ⟨by decide, False.elim⟩, false_iff]
      rintro ⟨g, -⟩
      have := g k (Nat.le_refl _) (by omega)
      rcases h with h | h
      · exact h this.1
      · exact this.2 h
    · rename_i h
      rw [ckF_zero l f (k + 1), if_neg (Nat.succ_ne_zero f)]
      have e1 : k + 1 + f - 1 = k + (f + 1) - 1 := by omega
      constructor
      · rintro ⟨g, g2⟩
        refine ⟨fun j h1 h2 => ?_, ?_⟩
        · by_cases ej : j = k
          · subst ej
            exact ⟨Decidable.byContradiction fun q => h (.inl q), fun q => h (.inr q)⟩
          · exact g j (by omega) (by omega)
        · by_cases hf : f = 0
          · subst hf; simpa using g2
          · rw [if_neg hf] at g2; rw [← e1]; exact g2
      · rintro ⟨g, g2⟩
        refine ⟨fun j h1 h2 => g j (by omega) (by omega), ?_⟩
        by_cases hf : f = 0
        · subst hf; simpa using g2
        · rw [if_neg hf, e1]; exact g2
theorem rt_of_ck {l : List Int} (h : ck l = 0) : Rt l (l.length / 16) := by
  unfold ck at h
  by_cases hm : l.length % 16 = 0
  · rw [if_pos hm, ckF_zero] at h
    obtain ⟨h1, h2⟩ := h
    refine ⟨by omega, fun k hk => (h1 k (Nat.zero_le _) (by omega)).1, fun j k hjk hk hj hu e => ?_, fun k e => ?_⟩
    · exact (h1 k (Nat.zero_le _) (by omega)).2 ⟨hu, (has_Sd l _ k).2 ⟨j, hjk, hj, e⟩⟩
    · rw [if_neg (by omega)] at h2
      rw [show 0 + l.length / 16 - 1 = k by omega] at h2
      exact h2
  · rw [if_neg hm] at h
    exact absurd h (by decide)
theorem Rt.ckS {l : List Int} {N : Nat} (h : Rt l N) : ck l = 0 := by
  have e : l.length / 16 = N := by have := h.len; omega
  unfold ck
  rw [if_pos (by have := h.len; omega), e, ckF_zero]
  refine ⟨fun j _ hj => ⟨h.good j (by omega), fun ⟨hu, hh⟩ => ?_⟩, ?_⟩
  · obtain ⟨i, hi, hi2, e2⟩ := (has_Sd l _ j).1 hh
    exact h.one i j hi (by omega) hi2 hu e2
  · by_cases h0 : N = 0
    · rw [if_pos h0]
    · rw [if_neg h0]
      exact h.last _ (by omega)
theorem Rt.n {l : List Int} {N : Nat} (h : Rt l N) : l.length / 16 = N := by have := h.len; omega

/-! the entries' row -/
theorem en_mem (l : List Int) (x : Int × Int × ByteArray) : ∀ k, x ∈ enT l k ↔ ∃ j, j < k ∧ rU (slotL l j) = true ∧ x = ((j : Int), eI (slotL l j), eS (slotL l j))
  | 0 => by simp [enT]
  | k + 1 => by
    rw [enT]
    split
    · rename_i hu
      rw [List.mem_append, en_mem l x k]
      constructor
      · rintro (⟨j, hj, h⟩ | h)
        · exact ⟨j, by omega, h⟩
        · simp at h; exact ⟨k, by omega, hu, h⟩
      · rintro ⟨j, hj, h, h2⟩
        by_cases e : j = k
        · subst e; right; simp [h2]
        · exact .inl ⟨j, by omega, h, h2⟩
    · rename_i hu
      rw [en_mem l x k]
      constructor
      · rintro ⟨j, hj, h⟩; exact ⟨j, by omega, h⟩
      · rintro ⟨j, hj, h, h2⟩
        by_cases e : j = k
        · subst e; exact absurd h hu
        · exact ⟨j, by omega, h, h2⟩
theorem enT_split (l : List Int) {k N : Nat} (hk : k < N) (hu : rU (slotL l k) = true) : ∃ q, enT l N = enT l k ++ ((k : Int), eI (slotL l k), eS (slotL l k)) :: q := by
  obtain ⟨q, hq⟩ := enT_pre l (show k + 1 ≤ N from hk)
  rw [enT, if_pos hu] at hq
  exact ⟨q, by rw [← hq]; simp⟩
theorem fd_at {l : List Int} {k N : Nat} {s : ByteArray} (hN : l.length / 16 = N) (hk : k < N) (hu : rU (slotL l k) = true) (hs : eS (slotL l k) = s) (hf : ∀ j, j < k → rU (slotL l j) = true → eS (slotL l j) ≠ s) : fd l s = ((k : Int), eI (slotL l k)) := by
  unfold fd en
  rw [hN]
  obtain ⟨q, hq⟩ := enT_split l hk hu
  rw [hq]
  exact fdL_at (x := ((k : Int), eI (slotL l k), eS (slotL l k))) hs fun x hx => by
    obtain ⟨j, hj, hj2, rfl⟩ := (en_mem l x k).1 hx
    exact hf j hj hj2
theorem fd_none {l : List Int} {N : Nat} {s : ByteArray} (hN : l.length / 16 = N) (hf : ∀ j, j < N → rU (slotL l j) = true → eS (slotL l j) ≠ s) : fd l s = (-1, 0) := by
  unfold fd en
  rw [hN]
  exact fdL_none fun x hx => by
    obtain ⟨j, hj, hj2, rfl⟩ := (en_mem l x N).1 hx
    exact hf j hj hj2
theorem Rt.at {l : List Int} {N k : Nat} {s : ByteArray} (h : Rt l N) (hk : k < N) (hu : rU (slotL l k) = true) (hs : eS (slotL l k) = s) : fd l s = ((k : Int), eI (slotL l k)) :=
  fd_at h.n hk hu hs fun j hj hj2 e => h.one j k hj hk hj2 hu (e.trans hs.symm)
/-- a name is there, or not -/
theorem Rt.cases {l : List Int} {N : Nat} (_h : Rt l N) (s : ByteArray) : (∃ k, k < N ∧ rU (slotL l k) = true ∧ eS (slotL l k) = s) ∨ (∀ k, k < N → rU (slotL l k) = true → eS (slotL l k) ≠ s) := by
  by_cases e : ∃ k, k < N ∧ rU (slotL l k) = true ∧ eS (slotL l k) = s
  · exact .inl e
  · exact .inr fun k hk hu he => e ⟨k, hk, hu, he⟩
theorem Rt.no {l : List Int} {N : Nat} {s : ByteArray} (h : Rt l N) (hs : (fd l s).1 < 0) : ∀ k, k < N → rU (slotL l k) = true → eS (slotL l k) ≠ s := by
  rcases h.cases s with ⟨k, hk, hu, he⟩ | g
  · rw [h.at hk hu he] at hs
    have : (k : Int) < 0 := hs
    omega
  · exact g
theorem Rt.yes {l : List Int} {N : Nat} {s : ByteArray} (h : Rt l N) (hs : ¬ (fd l s).1 < 0) : ∃ k : Nat, (fd l s).1 = (k : Int) ∧ k < N ∧ rU (slotL l k) = true ∧ eS (slotL l k) = s := by
  rcases h.cases s with ⟨k, hk, hu, he⟩ | g
  · exact ⟨k, by rw [h.at hk hu he], hk, hu, he⟩
  · rw [fd_none h.n g] at hs
    exact (hs (by decide)).elim

/-! slots written -/
/-- one slot written -/
def pw (l : List Int) (k : Nat) (x : List Int) : List Int := splice l (k * 16) x
theorem pw_len {l x : List Int} {N k : Nat} (hl : l.length = N * 16) (hk : k < N) (hx : x.length = 16) : (pw l k x).length = N * 16 := by
  unfold pw
  rw [length_splice _ _ _ (by omega), hl]
theorem pw_same {l x : List Int} {N k : Nat} (hl : l.length = N * 16) (hk : k < N) (hx : x.length = 16) : slotL (pw l k x) k = x := by
  have := splice_same (L := l) (cs := x) (o := k * 16) (by omega)
  rw [hx] at this
  exact this
theorem pw_other {l x : List Int} {N k j : Nat} (hl : l.length = N * 16) (hk : k < N) (hx : x.length = 16) (hj : j ≠ k) : slotL (pw l k x) j = slotL l j :=
  splice_other (L := l) (cs := x) (o := k * 16) (by omega) (by rcases Nat.lt_or_gt_of_ne hj with h | h <;> omega)
theorem pw_u8 {l x : List Int} {k : Nat} (h : ∀ b ∈ l, U8 b) (h2 : ∀ b ∈ x, U8 b) : ∀ b ∈ pw l k x, U8 b := splice_u8 h h2
def z16 : List Int := List.replicate 16 0
theorem z16_len : z16.length = 16 := rfl
theorem z16_nz : nz z16 := by decide
theorem slot_app {l x : List Int} {N j : Nat} (hl : l.length = N * 16) (hj : j < N) : slotL (l ++ x) j = slotL l j := by
  unfold slotL
  rw [List.drop_append_of_le_length (by omega), List.take_append_of_le_length (by rw [List.length_drop]; omega)]
theorem slot_new {l x : List Int} {N : Nat} (hl : l.length = N * 16) (hx : x.length = 16) : slotL (l ++ x) N = x := by
  unfold slotL
  rw [← hl, List.drop_left, List.take_of_length_le (by omega)]
theorem slots_ext {l m : List Int} {N : Nat} (hl : l.length = N * 16) (hm : m.length = N * 16) (h : ∀ k, k < N → slotL l k = slotL m k) : l = m := by
  apply List.ext_getElem?
  intro i
  by_cases hi : i < N * 16
  · have hk : i / 16 < N := by omega
    have := congrArg (fun q => q[i % 16]?) (h (i / 16) hk)
    simp only [slotL, List.getElem?_take, List.getElem?_drop] at this
    rw [if_pos (by omega), if_pos (by omega), show i / 16 * 16 + i % 16 = i by omega] at this
    exact this
  · rw [List.getElem?_eq_none (by omega), List.getElem?_eq_none (by omega)]
theorem slot_take {l : List Int} {n k : Nat} (hk : k < n) : slotL (l.take (n * 16)) k = slotL l k := by
  unfold slotL
  rw [List.drop_take, List.take_take, Nat.min_eq_left (by omega)]
/-- a slot that is right and is none is empty -/
theorem nz_of {x : List Int} (hl : x.length = 16) (hg : rE x = 0) (hu : rU x = false) : nz x := by
  by_cases h : nz x
  · exact h
  · by_cases hgd : gd x
    · rw [(r_good hl h hgd).2.1] at hu; cases hu
    · rw [(r_bad hl h hgd).1] at hg; exact absurd hg (by decide)
theorem nz_no {x : List Int} (hu : rU x = true) : ¬ nz x := by
  unfold rU at hu
  exact (of_decide_eq_true hu).2.1
theorem nz_z16 {x : List Int} (hl : x.length = 16) (h : nz x) : x = z16 := by
  apply List.ext_getElem (by rw [hl]; rfl)
  intro i h1 h2
  have := h i h1
  rw [List.getD_eq_getElem?_getD, List.getElem?_eq_getElem h1] at this
  have e : z16[i] = 0 := List.getElem_replicate ..
  rw [e]
  exact this
theorem nz_uE {x : List Int} (hl : x.length = 16) (h : nz x) : rE x = 0 ∧ rU x = false := ⟨(r_zero hl h).1, (r_zero hl h).2.1⟩

/-! the first empty slot -/
theorem rmF_spec (l : List Int) : ∀ (f k : Nat), k ≤ rmF l f k ∧ rmF l f k ≤ k + f ∧ (∀ j, k ≤ j → j < rmF l f k → ¬ nz (slotL l j)) ∧ (rmF l f k < k + f → nz (slotL l (rmF l f k)))
  | 0, k => by
    rw [rmF]
    exact ⟨Nat.le_refl _, Nat.le_refl _, fun j h1 h2 => by omega, fun h => by omega⟩
  | f + 1, k => by
    rw [rmF]
    split
    · rename_i h
      exact ⟨Nat.le_refl _, by omega, fun j h1 h2 => by omega, fun _ => h⟩
    · rename_i h
      obtain ⟨h1, h2, h3, h4⟩ := rmF_spec l f (k + 1)
      refine ⟨by omega, by omega, fun j g1 g2 => ?_, fun g => h4 (by omega)⟩
      by_cases e : j = k
      · subst e; exact h
      · exact h3 j (by omega) g2
theorem Rt.rmS {l : List Int} {N : Nat} (h : Rt l N) : rm l ≤ N ∧ (rm l < N → nz (slotL l (rm l))) := by
  have := rmF_spec l (l.length / 16) 0
  unfold rm
  rw [h.n] at this ⊢
  exact ⟨by omega, fun g => this.2.2.2 (by omega)⟩

/-- a directory with room for a slot more, if none is empty -/
def ex (l : List Int) : List Int := l ++ List.replicate ((rm l + 1) * 16 - l.length) 0
/-- an entry more -/
def adB (l : List Int) (x : List Int) : List Int := pw (ex l) (rm l) x
/-- how many slots it has then -/
def adN (l : List Int) : Nat := if rm l < l.length / 16 then l.length / 16 else l.length / 16 + 1
theorem Rt.exS {l : List Int} {N : Nat} (h : Rt l N) : (ex l).length = adN l * 16 ∧ rm l < adN l ∧ (∀ j, j < N → slotL (ex l) j = slotL l j) ∧ N ≤ adN l ∧ (∀ j, N ≤ j → j < adN l → j = rm l) := by
  obtain ⟨h1, h2⟩ := h.rmS
  have hl := h.len
  unfold ex adN
  rw [h.n]
  by_cases hr : rm l < N
  · rw [if_pos hr, show (rm l + 1) * 16 - l.length = 0 by omega, List.replicate_zero, List.append_nil]
    exact ⟨hl, hr, fun _ _ => rfl, Nat.le_refl _, fun j h1 h2 => by omega⟩
  · rw [if_neg hr]
    refine ⟨?_, by omega, fun j hj => slot_app hl hj, by omega, fun j h1 h2 => by omega⟩
    rw [List.length_append, List.length_replicate]
    omega
theorem adB_slot {l x : List Int} {N j : Nat} (h : Rt l N) (hx : x.length = 16) : slotL (adB l x) (rm l) = x ∧ (j ≠ rm l → j < N → slotL (adB l x) j = slotL l j) := by
  obtain ⟨e1, e2, e3, e4, e5⟩ := h.exS
  refine ⟨pw_same e1 e2 hx, fun hj hN => ?_⟩
  unfold adB
  rw [pw_other e1 e2 hx hj, e3 j hN]
theorem adB_len {l x : List Int} {N : Nat} (h : Rt l N) (hx : x.length = 16) : (adB l x).length = adN l * 16 := pw_len h.exS.1 h.exS.2.1 hx

/-- what is told of another directory that has the same entries but one -/
theorem fd_same {l m : List Int} {N M : Nat} (hl : Rt l N) (hm : Rt m M) (t : ByteArray) (h1 : ∀ k, k < N → rU (slotL l k) = true → eS (slotL l k) = t → k < M ∧ slotL m k = slotL l k)
    (h2 : ∀ k, k < M → rU (slotL m k) = true → eS (slotL m k) = t → k < N ∧ slotL l k = slotL m k) : fd m t = fd l t := by
  rcases hl.cases t with ⟨k, hk, hu, he⟩ | g
  · obtain ⟨g1, g2⟩ := h1 k hk hu he
    rw [hl.at hk hu he, hm.at g1 (by rw [g2]; exact hu) (by rw [g2]; exact he), g2]
  · rw [fd_none hl.n g, fd_none hm.n fun k hk hu he => by
      obtain ⟨g1, g2⟩ := h2 k hk hu he
      exact g k g1 (by rw [g2]; exact hu) (by rw [g2]; exact he)]

theorem add_right {l : List Int} {N : Nat} {i : Int} {s : ByteArray} (h : Rt l N) (hw : wE i s = 0) (hs : (fd l s).1 < 0) :
    Rt (adB l (sb i s)) (adN l) ∧ fd (adB l (sb i s)) s = ((rm l : Int), i) ∧ ∀ t, t ≠ s → fd (adB l (sb i s)) t = fd l t := by
  obtain ⟨hm, hn⟩ := w_yes hw
  have hx := sb_length (i := i) hn.1.2
  obtain ⟨q1, q2, q3, q4⟩ := back_wr hm hn
  obtain ⟨e1, e2, e3, e4, e5⟩ := h.exS
  have hno := h.no hs
  have h0 := (adB_slot (j := 0) h hx).1
  have hoth : ∀ j, j ≠ rm l → j < N → slotL (adB l (sb i s)) j = slotL l j := fun j hj => (adB_slot h hx).2 hj
  have hN : ∀ j, j < adN l → j ≠ rm l → j < N := fun j hj hne => by
    rcases Nat.lt_or_ge j N with g | g
    · exact g
    · exact absurd (e5 j g hj) hne
  have R : Rt (adB l (sb i s)) (adN l) := by
    refine ⟨adB_len h hx, fun k hk => ?_, fun j k hjk hk hj hku he => ?_, fun k hk => ?_⟩
    · by_cases e : k = rm l
      · subst e; rw [h0]; exact q1
      · rw [hoth k e (hN k hk e)]; exact h.good k (hN k hk e)
    · by_cases ej : j = rm l
      · have ek : k ≠ rm l := by omega
        have hkN := hN k hk ek
        rw [hoth k ek hkN] at hku he
        rw [ej, h0, q4] at he
        exact hno k hkN hku he.symm
      · have hjN := hN j (by omega) ej
        rw [hoth j ej hjN] at hj he
        by_cases ek : k = rm l
        · rw [ek, h0, q4] at he
          exact hno j hjN hj he
        · have hkN := hN k hk ek
          rw [hoth k ek hkN] at hku he
          exact h.one j k hjk hkN hj hku he
    · by_cases ek : k = rm l
      · rw [ek, h0]; exact q2
      · have hkN := hN k (by omega) ek
        rw [hoth k ek hkN]
        exact h.last k (by omega)
  refine ⟨R, ?_, fun t ht => fd_same h R t (fun k hk hu he => ?_) (fun k hk hu he => ?_)⟩
  · have := R.at (s := s) e2 (by rw [h0]; exact q2) (by rw [h0]; exact q4)
    rw [this, h0, q3]
  · have hne : k ≠ rm l := fun e => by
      have hz := h.rmS.2 (e ▸ hk)
      rw [← e] at hz
      exact nz_no hu hz
    exact ⟨by omega, hoth k hne hk⟩
  · have hne : k ≠ rm l := fun e => by
      rw [e, h0, q4] at he
      exact ht he.symm
    have := hN k hk hne
    exact ⟨this, (hoth k hne this).symm⟩

/-! slots cleared -/
/-- how many slots are left, those at the end that are empty being taken off -/
def stN (l : List Int) : Nat → Nat
  | 0 => 0
  | n + 1 => if nz (slotL l n) then stN l n else n + 1
theorem stN_spec (l : List Int) : ∀ n, stN l n ≤ n ∧ (∀ j, stN l n ≤ j → j < n → nz (slotL l j)) ∧ (∀ k, stN l n = k + 1 → ¬ nz (slotL l k))
  | 0 => ⟨Nat.le_refl _, fun j h1 h2 => by omega, fun k h => by simp [stN] at h⟩
  | n + 1 => by
    rw [stN]
    split
    · rename_i h
      obtain ⟨h1, h2, h3⟩ := stN_spec l n
      refine ⟨by omega, fun j g1 g2 => ?_, h3⟩
      by_cases e : j = n
      · subst e; exact h
      · exact h2 j g1 (by omega)
    · rename_i h
      exact ⟨Nat.le_refl _, fun j g1 g2 => by omega, fun k e => by obtain rfl : n = k := by omega
                                                                   exact h⟩
/-- without an entry -/
def clB (l : List Int) (k : Nat) : List Int := pw l k z16
def rmN (l : List Int) (k : Nat) : Nat := stN (clB l k) (l.length / 16)
def rmB (l : List Int) (k : Nat) : List Int := (clB l k).take (rmN l k * 16)
theorem rmB_len {l : List Int} {N k : Nat} (h : Rt l N) (hk : k < N) : (rmB l k).length = rmN l k * 16 ∧ rmN l k ≤ N := by
  have := (stN_spec (clB l k) N).1
  have e : rmN l k = stN (clB l k) N := by unfold rmN; rw [h.n]
  have hl : (clB l k).length = N * 16 := pw_len h.len hk z16_len
  unfold rmB
  rw [List.length_take, hl, e]
  exact ⟨by omega, this⟩
theorem rmB_slot {l : List Int} {N k j : Nat} (h : Rt l N) (hk : k < N) (hj : j < rmN l k) : slotL (rmB l k) j = if j = k then z16 else slotL l j := by
  unfold rmB
  rw [slot_take hj]
  by_cases e : j = k
  · subst e; rw [if_pos rfl]; exact pw_same h.len hk z16_len
  · rw [if_neg e]; exact pw_other h.len hk z16_len e

theorem remove_right {l : List Int} {N k : Nat} {s : ByteArray} (h : Rt l N) (hk : k < N) (hu : rU (slotL l k) = true) (hs : eS (slotL l k) = s) :
    Rt (rmB l k) (rmN l k) ∧ fd (rmB l k) s = (-1, 0) ∧ ∀ t, t ≠ s → fd (rmB l k) t = fd l t := by
  obtain ⟨hl, hle⟩ := rmB_len h hk
  have e : rmN l k = stN (clB l k) N := by unfold rmN; rw [h.n]
  obtain ⟨-, s2, s3⟩ := stN_spec (clB l k) N
  rw [← e] at s2 s3
  have zU := nz_uE z16_len z16_nz
  have hsl : ∀ j, j < rmN l k → rU (slotL (rmB l k) j) = true → j ≠ k ∧ slotL (rmB l k) j = slotL l j := fun j hj hju => by
    rw [rmB_slot h hk hj] at hju ⊢
    by_cases ej : j = k
    · rw [if_pos ej, zU.2] at hju; cases hju
    · rw [if_neg ej]; exact ⟨ej, rfl⟩
  have hcl : ∀ j, j < N → slotL (clB l k) j = if j = k then z16 else slotL l j := fun j hj => by
    by_cases ej : j = k
    · subst ej; rw [if_pos rfl]; exact pw_same h.len hk z16_len
    · rw [if_neg ej]; exact pw_other h.len hk z16_len ej
  have R : Rt (rmB l k) (rmN l k) := by
    refine ⟨hl, fun j hj => ?_, fun i j hij hj hi hju he => ?_, fun j hj => ?_⟩
    · rw [rmB_slot h hk hj]
      by_cases ej : j = k
      · rw [if_pos ej]; exact zU.1
      · rw [if_neg ej]; exact h.good j (by omega)
    · obtain ⟨-, g1⟩ := hsl i (by omega) hi
      obtain ⟨-, g2⟩ := hsl j hj hju
      rw [g1] at hi he
      rw [g2] at hju he
      exact h.one i j hij (by omega) hi hju he
    · have hjN : j < N := by omega
      have := s3 j hj
      rw [hcl j hjN] at this
      rw [rmB_slot h hk (by omega)]
      by_cases ej : j = k
      · rw [if_pos ej] at this; exact absurd z16_nz this
      · rw [if_neg ej] at this ⊢
        cases hju : rU (slotL l j)
        · exact absurd (nz_of (slotL_len (by rw [h.n]; exact hjN)) (h.good j hjN) hju) this
        · rfl
  refine ⟨R, ?_, fun t ht => fd_same h R t (fun j hj hju he => ?_) (fun j hj hju he => ?_)⟩
  · refine fd_none R.n fun j hj hju he => ?_
    obtain ⟨g1, g2⟩ := hsl j hj hju
    rw [g2] at hju he
    rcases Nat.lt_or_gt_of_ne g1 with g | g
    · exact h.one j k g hk hju hu (he.trans hs.symm)
    · exact h.one k j g (by omega) hu hju (hs.trans he.symm)
  · have hne : j ≠ k := fun ej => ht (by rw [← he, ej, hs])
    have hlt : j < rmN l k := by
      rcases Nat.lt_or_ge j (rmN l k) with g | g
      · exact g
      · have := s2 j g hj
        rw [hcl j hj, if_neg hne] at this
        exact absurd this (nz_no hju)
    refine ⟨hlt, ?_⟩
    rw [rmB_slot h hk hlt, if_neg hne]
  · obtain ⟨g1, g2⟩ := hsl j hj hju
    exact ⟨by omega, g2.symm⟩

theorem turn_right {l : List Int} {N k : Nat} {s : ByteArray} {i : Int} (h : Rt l N) (hk : k < N) (hu : rU (slotL l k) = true) (hs : eS (slotL l k) = s) (hw : wE i s = 0) :
    Rt (pw l k (sb i s)) N ∧ fd (pw l k (sb i s)) s = ((k : Int), i) ∧ ∀ t, t ≠ s → fd (pw l k (sb i s)) t = fd l t := by
  obtain ⟨hm, hn⟩ := w_yes hw
  have hx := sb_length (i := i) hn.1.2
  obtain ⟨q1, q2, q3, q4⟩ := back_wr hm hn
  have h0 := pw_same h.len hk hx
  have hoth : ∀ j, j ≠ k → slotL (pw l k (sb i s)) j = slotL l j := fun j hj => pw_other h.len hk hx hj
  have R : Rt (pw l k (sb i s)) N := by
    refine ⟨pw_len h.len hk hx, fun j hj => ?_, fun a b hab hb ha hbu he => ?_, fun j hj => ?_⟩
    · by_cases e : j = k
      · subst e; rw [h0]; exact q1
      · rw [hoth j e]; exact h.good j hj
    · by_cases ea : a = k
      · have eb : b ≠ k := by omega
        rw [hoth b eb] at hbu he
        rw [ea, h0, q4] at he
        exact h.one k b (by omega) hb hu hbu (hs.trans he)
      · rw [hoth a ea] at ha he
        by_cases eb : b = k
        · rw [eb, h0, q4] at he
          exact h.one a k (by omega) hk ha hu (he.trans hs.symm)
        · rw [hoth b eb] at hbu he
          exact h.one a b hab hb ha hbu he
    · by_cases e : j = k
      · rw [e, h0]; exact q2
      · rw [hoth j e]; exact h.last j hj
  refine ⟨R, ?_, fun t ht => fd_same h R t (fun j hj hju he => ?_) (fun j hj hju he => ?_)⟩
  · have := R.at (s := s) hk (by rw [h0]; exact q2) (by rw [h0]; exact q4)
    rw [this, h0, q3]
  · have hne : j ≠ k := fun ej => ht (by rw [← he, ej, hs])
    exact ⟨hj, hoth j hne⟩
  · have hne : j ≠ k := fun ej => by
      rw [ej, h0, q4] at he
      exact ht he.symm
    exact ⟨hj, (hoth j hne).symm⟩

/-- what is added and removed again -/
theorem undo {l : List Int} {N : Nat} {x : List Int} (h : Rt l N) (hx : x.length = 16) : rmB (adB l x) (rm l) = l := by
  obtain ⟨e1, e2, e3, e4, e5⟩ := h.exS
  obtain ⟨r1, r2⟩ := h.rmS
  have hA := adB_len h hx
  have hAn : (adB l x).length / 16 = adN l := by omega
  have hcl : ∀ j, j < adN l → slotL (clB (adB l x) (rm l)) j = if j = rm l then z16 else slotL l j := fun j hj => by
    by_cases ej : j = rm l
    · rw [if_pos ej, ej]; exact pw_same hA e2 z16_len
    · rw [if_neg ej]
      refine (pw_other hA e2 z16_len ej).trans ((adB_slot h hx).2 ej ?_)
      rcases Nat.lt_or_ge j N with g | g
      · exact g
      · exact absurd (e5 j g hj) ej
  have hcN : ∀ j, j < N → slotL (clB (adB l x) (rm l)) j = slotL l j := fun j hj => by
    rw [hcl j (by omega)]
    by_cases ej : j = rm l
    · rw [if_pos ej, ej]
      exact (nz_z16 (slotL_len (by rw [h.n]; omega)) (r2 (by omega))).symm
    · rw [if_neg ej]
  obtain ⟨s1, s2, s3⟩ := stN_spec (clB (adB l x) (rm l)) (adN l)
  have hst : stN (clB (adB l x) (rm l)) (adN l) = N := by
    apply Nat.le_antisymm
    · apply Nat.le_of_not_lt
      intro g
      obtain ⟨n, hn⟩ : ∃ n, stN (clB (adB l x) (rm l)) (adN l) = n + 1 := ⟨_, (Nat.succ_pred_eq_of_pos (by omega)).symm⟩
      have := s3 n hn
      rw [hcl n (by omega), if_pos (e5 n (by omega) (by omega))] at this
      exact this z16_nz
    · apply Nat.le_of_not_lt
      intro g
      obtain ⟨n, hn⟩ : ∃ n, N = n + 1 := ⟨N - 1, by omega⟩
      have := s2 n (by omega) (by omega)
      rw [hcN n (by omega)] at this
      exact nz_no (h.last n hn) this
  have hcL : (clB (adB l x) (rm l)).length = adN l * 16 := pw_len hA e2 z16_len
  unfold rmB rmN
  rw [hAn, hst]
  refine slots_ext (N := N) (by rw [List.length_take, hcL]; omega) h.len fun k hk => ?_
  rw [slot_take hk, hcN k hk]

end Go.Proofs.Ytbgimehbencdgaa
