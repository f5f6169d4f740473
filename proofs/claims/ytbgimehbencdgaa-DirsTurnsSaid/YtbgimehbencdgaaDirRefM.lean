/-
  A directory as a row of entries: on lists. Nothing of one statement alone stands here.
-/
import Derived.Test.YtbgimehbencdgaaDirUndoW
namespace Go.Proofs.Ytbgimehbencdgaa
open Go.RowKit Crcm Tagm Dirm Go.ChangeShapes

abbrev En := Int × ByteArray
/-- the entry of a slot -/
def ent (l : List Int) (k : Nat) : En := (eI (slotL l k), eS (slotL l k))
/-- the first so many slots' entries -/
def es (l : List Int) (k : Nat) : List En := (List.range k).map (ent l)
theorem es_len (l : List Int) (k : Nat) : (es l k).length = k := by unfold es; simp
theorem es_snoc (l : List Int) (k : Nat) : es l (k + 1) = es l k ++ [ent l k] := by unfold es; rw [List.range_succ, List.map_append]; rfl
theorem es_at (l : List Int) {j k : Nat} (h : j < k) : (es l k)[j]! = ent l j := by
  rw [getElem!_pos (es l k) j (by rw [es_len]; exact h)]
  unfold es
  simp
theorem gd_rI {l : List Int} (h : rU l = true) : 1 ≤ eI l ∧ 1 ≤ (eS l).size := by
  have hu := h
  unfold rU at hu
  obtain ⟨h1, h2, h3⟩ := of_decide_eq_true hu
  obtain ⟨-, -, q3, q4⟩ := r_good h1 h2 h3
  rw [q3, q4]
  exact ⟨h3.2.2.1, h3.2.2.2.1.1⟩
theorem un_rI {l : List Int} (h : ¬ rU l = true) : eI l = 0 ∧ eS l = ⟨#[]⟩ := by
  unfold eI eS
  rw [if_neg h, if_neg h]
  exact ⟨rfl, rfl⟩
theorem rU_iff (l : List Int) : rU l = true ↔ 0 < eI l := by
  constructor
  · intro h; have := (gd_rI h).1; omega
  · intro h
    by_cases g : rU l = true
    · exact g
    · rw [(un_rI g).1] at h; omega

/-- right so far -/
def Gk (l : List Int) (k : Nat) : Prop := l.length % 16 = 0 ∧ ∀ j, j < k → rE (slotL l j) = 0 ∧ (rU (slotL l j) = true → ∀ i, i < j → eS (slotL l i) ≠ eS (slotL l j))
theorem Gk_zero (l : List Int) : Gk l 0 ↔ l.length % 16 = 0 := ⟨fun h => h.1, fun h => ⟨h, fun _ hj => absurd hj (Nat.not_lt_zero _)⟩⟩
theorem Gk_succ (l : List Int) (k : Nat) : Gk l (k + 1) ↔ (Gk l k ∧ rE (slotL l k) = 0) ∧ (rU (slotL l k) = true → ∀ i, i < k → eS (slotL l i) ≠ eS (slotL l k)) := by
  unfold Gk
  constructor
  · rintro ⟨h1, h2⟩
    exact ⟨⟨⟨h1, fun j hj => h2 j (by omega)⟩, (h2 k (by omega)).1⟩, (h2 k (by omega)).2⟩
  · rintro ⟨⟨⟨h1, h2⟩, h3⟩, h4⟩
    refine ⟨h1, fun j hj => ?_⟩
    by_cases e : j = k
    · subst e; exact ⟨h3, h4⟩
    · exact h2 j (by omega)
theorem Gk_end (l : List Int) (N : Nat) (hN : l.length / 16 = N) : (Gk l N ∧ (N = 0 ∨ 0 < eI (slotL l (N - 1)))) ↔ ck l = 0 := by
  constructor
  · rintro ⟨⟨h1, h2⟩, h3⟩
    refine Rt.ckS (N := N) ⟨by omega, fun k hk => (h2 k hk).1, fun j k hjk hk hj hu => (h2 k hk).2 hu j hjk, fun k hk => ?_⟩
    rw [rU_iff]
    rcases h3 with h3 | h3
    · omega
    · rwa [show N - 1 = k by omega] at h3
  · intro h
    have hR := rt_of_ck h
    rw [hN] at hR
    refine ⟨⟨by have := hR.len; omega, fun j hj => ⟨hR.good j hj, fun hu i hi e => ?_⟩⟩, ?_⟩
    · by_cases hiu : rU (slotL l i) = true
      · exact hR.one i j hi hj hiu hu e
      · have h1 := (un_rI hiu).2
        have h2 := (gd_rI hu).2
        rw [← e, h1] at h2
        exact absurd h2 (by decide)
    · rcases Nat.eq_zero_or_pos N with h0 | h0
      · exact .inl h0
      · right
        rw [← rU_iff]
        exact hR.last _ (by omega)

/-! find -/
def fdE (s : ByteArray) : List En → Nat → Int
  | [], _ => -1
  | x :: r, k => if 0 < x.1 ∧ x.2 = s then (k : Int) else fdE s r (k + 1)
theorem fdE_none {s : ByteArray} : ∀ {L : List En} {k : Nat}, (∀ x ∈ L, ¬ (0 < x.1 ∧ x.2 = s)) → fdE s L k = -1
  | [], _, _ => rfl
  | x :: r, k, h => by rw [fdE, if_neg (h x (by simp))]; exact fdE_none (fun y hy => h y (by simp [hy]))
theorem fdE_at {s : ByteArray} : ∀ {L : List En} {k j : Nat} (_ : j < L.length), (0 < (L[j]!).1 ∧ (L[j]!).2 = s) → (∀ i, i < j → ¬ (0 < (L[i]!).1 ∧ (L[i]!).2 = s)) → fdE s L k = ((k + j : Nat) : Int)
  | [], _, _, hj, _, _ => by simp at hj
  | x :: r, k, 0, _, hx, _ => by
    have hx : 0 < x.1 ∧ x.2 = s := hx
    rw [fdE, if_pos hx]; rfl
  | x :: r, k, j + 1, hj, hx, hn => by
    have h0 : ¬ (0 < x.1 ∧ x.2 = s) := hn 0 (by omega)
    rw [fdE, if_neg h0, fdE_at (j := j) (by simpa using hj) hx (fun i hi => hn (i + 1) (by omega))]
    omega
theorem fdE_es {l : List Int} {N : Nat} (h : Rt l N) (s : ByteArray) : fdE s (es l N) 0 = (fd l s).1 := by
  have key : ∀ j, j < N → ((0 < ((es l N)[j]!).1 ∧ ((es l N)[j]!).2 = s) ↔ (rU (slotL l j) = true ∧ eS (slotL l j) = s)) := fun j hj => by
    rw [es_at l hj, rU_iff]
    rfl
  rcases h.cases s with ⟨k, hk, hu, he⟩ | g
  · rw [h.at hk hu he, fdE_at (j := k) (by rw [es_len]; exact hk) ((key k hk).2 ⟨hu, he⟩) fun i hi h2 => by
      obtain ⟨g1, g2⟩ := (key i (by omega)).1 h2
      exact h.one i k hi hk g1 hu (g2.trans he.symm)]
    rw [Nat.zero_add]
  · rw [fd_none h.n g]
    refine fdE_none fun x hx h2 => ?_
    obtain ⟨j, hj, e⟩ := List.getElem_of_mem hx
    rw [es_len] at hj
    have e2 : (es l N)[j]! = x := by rw [getElem!_pos (es l N) j (by rw [es_len]; exact hj)]; exact e
    rw [← e2] at h2
    obtain ⟨g1, g2⟩ := (key j hj).1 h2
    exact g j hj g1 g2

/-! bytes -/
def eb (x : En) : List Int := if x.1 = 0 then z16 else wB x.1 x.2
def cat : List En → List Int
  | [] => []
  | x :: r => eb x ++ cat r
theorem cat_snoc (L : List En) (x : En) : cat (L ++ [x]) = cat L ++ eb x := by
  induction L with
  | nil => simp [cat]
  | cons y r ih => rw [List.cons_append, cat, ih, cat, List.append_assoc]
theorem cat_len : ∀ (L : List En), (∀ x ∈ L, (eb x).length = 16) → (cat L).length = L.length * 16
  | [], _ => rfl
  | x :: r, h => by
    rw [cat, List.length_append, h x (by simp), cat_len r (fun y hy => h y (by simp [hy])), List.length_cons]
    omega
theorem cat_slot : ∀ (L : List En) (j : Nat), (∀ x ∈ L, (eb x).length = 16) → j < L.length → slotL (cat L) j = eb L[j]!
  | [], j, _, hj => by simp at hj
  | x :: r, 0, h, _ => by
    have := h x (by simp)
    unfold slotL
    rw [cat, Nat.zero_mul, List.drop_zero, List.take_append_of_le_length (by omega), List.take_of_length_le (by omega)]
    rfl
  | x :: r, j + 1, h, hj => by
    have h1 := h x (by simp)
    have := cat_slot r j (fun y hy => h y (by simp [hy])) (by simpa using hj)
    unfold slotL at this ⊢
    rw [cat, show (j + 1) * 16 = (eb x).length + j * 16 by omega, ← List.drop_drop, List.drop_left, this]
    rfl
/-- how many entries are left, those at the end that are none being taken off -/
def stE (L : List En) : Nat → Nat
  | 0 => 0
  | n + 1 => if (L[n]!).1 = 0 then stE L n else n + 1
theorem stE_le (L : List En) : ∀ n, stE L n ≤ n
  | 0 => Nat.le_refl _
  | n + 1 => by
    rw [stE]
    split
    · exact Nat.le_succ_of_le (stE_le L n)
    · exact Nat.le_refl _
theorem stE_last (L : List En) : ∀ n k, stE L n = k + 1 → ¬ (L[k]!).1 = 0
  | 0, k, h => by simp [stE] at h
  | n + 1, k, h => by
    rw [stE] at h
    split at h
    · exact stE_last L n k h
    · rename_i g
      obtain rfl : n = k := by omega
      exact g
theorem stE_id {L : List En} {n : Nat} (h : ∀ k, n = k + 1 → ¬ (L[k]!).1 = 0) : stE L n = n := by
  cases n with
  | zero => rfl
  | succ n => rw [stE, if_neg (h n rfl)]
/-- the bytes of a row of entries -/
def byB (L : List En) : List Int := cat (L.take (stE L L.length))

theorem eb_slot {l : List Int} {N j : Nat} (h : Rt l N) (hU : ∀ n ∈ l, U8 n) (hj : j < N) : eb (ent l j) = slotL l j := by
  have hlen := slotL_len (l := l) (k := j) (by rw [h.n]; exact hj)
  have hsU : ∀ n ∈ slotL l j, U8 n := fun n hn => hU n (List.mem_of_mem_drop (List.mem_of_mem_take hn))
  unfold eb ent
  by_cases hu : rU (slotL l j) = true
  · have := (gd_rI hu).1
    rw [if_neg (by show ¬ eI (slotL l j) = 0; omega)]
    exact (back_rd hsU hu).2
  · rw [if_pos (un_rI hu).1]
    exact (nz_z16 hlen (nz_of hlen (h.good j hj) (by simpa using hu))).symm
theorem eb_len {i : Int} {s : ByteArray} (hw : wE i s = 0) : eb (i, s) = sb i s := by
  unfold eb
  have := (w_yes hw).1.1
  rw [if_neg (by show ¬ i = 0; omega)]
  unfold wB
  rw [if_pos hw]
theorem mem_at {L : List En} {x : En} (h : x ∈ L) : ∃ j, j < L.length ∧ L[j]! = x := by
  obtain ⟨j, hj, e⟩ := List.getElem_of_mem h
  exact ⟨j, hj, by rw [getElem!_pos L j hj]; exact e⟩
theorem take_at {L : List En} {n j : Nat} (hn : n ≤ L.length) (hj : j < n) : (L.take n)[j]! = L[j]! := by
  rw [getElem!_pos (L.take n) j (by rw [List.length_take]; omega), getElem!_pos L j (by omega), List.getElem_take]
theorem set_at {L : List En} {k j : Nat} {x : En} (hj : j < L.length) : (L.set k x)[j]! = if k = j then x else L[j]! := by
  rw [getElem!_pos (L.set k x) j (by rw [List.length_set]; exact hj), getElem!_pos L j hj, List.getElem_set]

/-- the bytes of a row whose slots are known -/
theorem by_slots {L : List En} {m : List Int} {n : Nat} (hs : stE L L.length = n) (hm : m.length = n * 16) (h : ∀ j, j < n → eb L[j]! = slotL m j) : byB L = m := by
  have hle : n ≤ L.length := by rw [← hs]; exact stE_le _ _
  have h16 : ∀ x ∈ L.take n, (eb x).length = 16 := fun x hx => by
    obtain ⟨j, hj, e⟩ := mem_at hx
    rw [List.length_take] at hj
    rw [← e, take_at hle (by omega), h j (by omega)]
    exact slotL_len (by omega)
  unfold byB
  rw [hs]
  refine slots_ext (N := n) (by rw [cat_len _ h16, List.length_take, Nat.min_eq_left hle]) hm fun k hk => ?_
  rw [cat_slot _ k h16 (by rw [List.length_take]; omega), take_at hle hk, h k hk]

/-! an entry more -/
/-- the first entry that is none -/
def frE : List En → Nat → Nat
  | [], k => k
  | x :: r, k => if x.1 = 0 then k else frE r (k + 1)
theorem frE_at : ∀ {L : List En} {k j : Nat}, j ≤ L.length → (j < L.length → (L[j]!).1 = 0) → (∀ i, i < j → ¬ (L[i]!).1 = 0) → frE L k = k + j
  | [], k, j, hj, _, _ => by simp at hj; subst hj; rfl
  | x :: r, k, 0, _, hx, _ => by
    have hx : x.1 = 0 := hx (by simp)
    rw [frE, if_pos hx]; rfl
  | x :: r, k, j + 1, hj, hx, hn => by
    have h0 : ¬ x.1 = 0 := hn 0 (by omega)
    rw [frE, if_neg h0, frE_at (j := j) (by simpa using hj) (fun h => hx (by simpa using h)) (fun i hi => hn (i + 1) (by omega))]
    omega
def adR (L : List En) (x : En) : List En := if frE L 0 < L.length then L.set (frE L 0) x else L ++ [x]
theorem frE_es {l : List Int} {N : Nat} (h : Rt l N) : frE (es l N) 0 = rm l := by
  obtain ⟨h1, h2⟩ := h.rmS
  have hsp := (rmF_spec l (l.length / 16) 0).2.2.1
  have key : ∀ j, j < N → (((es l N)[j]!).1 = 0 ↔ nz (slotL l j)) := fun j hj => by
    rw [es_at l hj]
    have hlen := slotL_len (l := l) (k := j) (by rw [h.n]; exact hj)
    constructor
    · intro e
      refine nz_of hlen (h.good j hj) ?_
      by_cases hu : rU (slotL l j) = true
      · have := (gd_rI hu).1
        have e : eI (slotL l j) = 0 := e
        omega
      · simpa using hu
    · intro hz
      exact (r_zero hlen hz).2.2.1
  have := frE_at (L := es l N) (k := 0) (j := rm l) (by rw [es_len]; exact h1) (fun g => by rw [es_len] at g; exact (key _ g).2 (h2 g)) (fun i hi e => hsp i (Nat.zero_le _) hi ((key i (by omega)).1 e))
  rw [this, Nat.zero_add]
theorem by_add {l : List Int} {N : Nat} {i : Int} {s : ByteArray} (h : Rt l N) (hU : ∀ n ∈ l, U8 n) (hw : wE i s = 0) : byB (adR (es l N) (i, s)) = adB l (sb i s) := by
  have hx : (sb i s).length = 16 := sb_length (w_yes hw).2.1.2
  have hi0 : ¬ i = 0 := by have := (w_yes hw).1.1; omega
  obtain ⟨e1, e2, e3, e4, e5⟩ := h.exS
  obtain ⟨r1, r2⟩ := h.rmS
  have hlen : (adR (es l N) (i, s)).length = adN l := by
    unfold adR adN
    rw [frE_es h, es_len, h.n]
    by_cases g : rm l < N
    · rw [if_pos g, if_pos g, List.length_set, es_len]
    · rw [if_neg g, if_neg g, List.length_append, es_len]; rfl
  have hat : ∀ j, j < adN l → (adR (es l N) (i, s))[j]! = if j = rm l then (i, s) else ent l j := fun j hj => by
    unfold adR
    rw [frE_es h, es_len]
    unfold adN at hj
    rw [h.n] at hj
    by_cases g : rm l < N
    · rw [if_pos g] at hj
      rw [if_pos g, set_at (by rw [es_len]; exact hj), es_at l hj]
      by_cases ej : j = rm l
      · rw [if_pos ej, if_pos ej.symm]
      · rw [if_neg ej, if_neg (fun e => ej e.symm)]
    · rw [if_neg g] at hj
      rw [if_neg g]
      by_cases ej : j = rm l
      · rw [if_pos ej]
        obtain rfl : N = j := by omega
        rw [getElem!_pos _ N (by rw [List.length_append, es_len]; simp), List.getElem_append_right (by rw [es_len]; exact Nat.le_refl _)]
        simp
      · rw [if_neg ej]
        have hjN : j < N := by omega
        rw [getElem!_pos _ j (by rw [List.length_append, es_len]; omega), List.getElem_append_left (by rw [es_len]; exact hjN), ← es_at l hjN, getElem!_pos (es l N) j (by rw [es_len]; exact hjN)]
  have hN : ∀ j, j < adN l → j ≠ rm l → j < N := fun j hj hne => by
    rcases Nat.lt_or_ge j N with g | g
    · exact g
    · exact absurd (e5 j g hj) hne
  refine by_slots (n := adN l) ?_ (adB_len h hx) fun j hj => ?_
  · rw [hlen]
    refine stE_id fun k hk => ?_
    rw [hat k (by omega)]
    by_cases ek : k = rm l
    · rw [if_pos ek]; exact hi0
    · rw [if_neg ek]
      have hkN := hN k (by omega) ek
      have := (gd_rI (h.last k (by omega))).1
      show ¬ eI (slotL l k) = 0
      omega
  · rw [hat j hj]
    by_cases ej : j = rm l
    · rw [if_pos ej, ej, eb_len hw, (adB_slot (j := 0) h hx).1]
    · rw [if_neg ej, (adB_slot h hx).2 ej (hN j hj ej), eb_slot h hU (hN j hj ej)]

/-! an entry less -/
def rmR (L : List En) (k : Nat) : List En := (L.set k (0, ⟨#[]⟩)).take (stE (L.set k (0, ⟨#[]⟩)) L.length)
theorem stE_take {L : List En} {n : Nat} (hn : n ≤ L.length) (hs : stE L L.length = n) : stE (L.take n) (L.take n).length = n := by
  rw [List.length_take, Nat.min_eq_left hn]
  refine stE_id fun k hk => ?_
  rw [take_at hn (by omega)]
  exact stE_last L L.length k (by omega)
theorem by_take {L : List En} : byB (L.take (stE L L.length)) = byB L := by
  unfold byB
  rw [stE_take (stE_le _ _) rfl, List.take_take, Nat.min_self]
theorem by_remove {l : List Int} {N k : Nat} (h : Rt l N) (hU : ∀ n ∈ l, U8 n) (hk : k < N) : byB (rmR (es l N) k) = rmB l k := by
  have hL : ((es l N).set k (0, ⟨#[]⟩)).length = N := by rw [List.length_set, es_len]
  have e1 : rmR (es l N) k = ((es l N).set k (0, ⟨#[]⟩)).take (stE ((es l N).set k (0, ⟨#[]⟩)) ((es l N).set k (0, ⟨#[]⟩)).length) := by
    unfold rmR
    rw [List.length_set]
  rw [e1, by_take]
  have hcl : ∀ j, j < N → slotL (clB l k) j = if j = k then z16 else slotL l j := fun j hj => by
    by_cases ej : j = k
    · subst ej; rw [if_pos rfl]; exact pw_same h.len hk z16_len
    · rw [if_neg ej]; exact pw_other h.len hk z16_len ej
  have hat : ∀ j, j < N → ((es l N).set k (0, ⟨#[]⟩))[j]! = if j = k then (0, ⟨#[]⟩) else ent l j := fun j hj => by
    rw [set_at (by rw [es_len]; exact hj), es_at l hj]
    by_cases ej : j = k
    · rw [if_pos ej, if_pos ej.symm]
    · rw [if_neg ej, if_neg (fun e => ej e.symm)]
  have heb : ∀ j, j < N → eb ((es l N).set k (0, ⟨#[]⟩))[j]! = slotL (clB l k) j := fun j hj => by
    rw [hat j hj, hcl j hj]
    by_cases ej : j = k
    · rw [if_pos ej, if_pos ej]; rfl
    · rw [if_neg ej, if_neg ej]; exact eb_slot h hU hj
  have hz : ∀ j, j < N → ((((es l N).set k (0, ⟨#[]⟩))[j]!).1 = 0 ↔ nz (slotL (clB l k) j)) := fun j hj => by
    rw [hat j hj, hcl j hj]
    by_cases ej : j = k
    · rw [if_pos ej, if_pos ej]; exact ⟨fun _ => z16_nz, fun _ => rfl⟩
    · rw [if_neg ej, if_neg ej]
      have hlen := slotL_len (l := l) (k := j) (by rw [h.n]; exact hj)
      constructor
      · intro e
        refine nz_of hlen (h.good j hj) ?_
        by_cases hu : rU (slotL l j) = true
        · have := (gd_rI hu).1
          have e : eI (slotL l j) = 0 := e
          omega
        · simpa using hu
      · intro hz
        exact (r_zero hlen hz).2.2.1
  have hst : ∀ n, n ≤ N → stE ((es l N).set k (0, ⟨#[]⟩)) n = stN (clB l k) n := by
    intro n
    induction n with
    | zero => intro _; rfl
    | succ n ih =>
      intro hn
      rw [stE, stN]
      by_cases g : nz (slotL (clB l k) n)
      · rw [if_pos g, if_pos ((hz n (by omega)).2 g)]; exact ih (by omega)
      · rw [if_neg g, if_neg (fun e => g ((hz n (by omega)).1 e))]
  obtain ⟨q1, q2⟩ := rmB_len h hk
  have hrN : rmN l k = stN (clB l k) N := by unfold rmN; rw [h.n]
  refine by_slots (n := rmN l k) (by rw [hL, hst N (Nat.le_refl _), hrN]) q1 fun j hj => ?_
  rw [heb j (by omega), rmB_slot h hk hj, hcl j (by omega)]

theorem by_turn {l : List Int} {N k : Nat} {s : ByteArray} {i : Int} (h : Rt l N) (hU : ∀ n ∈ l, U8 n) (hk : k < N) (hw : wE i s = 0) :
    byB ((es l N).set k (i, s)) = pw l k (sb i s) := by
  have hx : (sb i s).length = 16 := sb_length (w_yes hw).2.1.2
  have hL : ((es l N).set k (i, s)).length = N := by rw [List.length_set, es_len]
  have hat : ∀ j, j < N → ((es l N).set k (i, s))[j]! = if j = k then (i, s) else ent l j := fun j hj => by
    rw [set_at (by rw [es_len]; exact hj), es_at l hj]
    by_cases ej : j = k
    · rw [if_pos ej, if_pos ej.symm]
    · rw [if_neg ej, if_neg (fun e => ej e.symm)]
  refine by_slots (n := N) ?_ (pw_len h.len hk hx) fun j hj => ?_
  · rw [hL]
    refine stE_id fun j hj => ?_
    rw [hat j (by omega)]
    by_cases ej : j = k
    · rw [if_pos ej]
      have := (w_yes hw).1.1
      show ¬ i = 0
      omega
    · rw [if_neg ej]
      have := (gd_rI (h.last j hj)).1
      show ¬ eI (slotL l j) = 0
      omega
  · rw [hat j hj]
    by_cases ej : j = k
    · rw [if_pos ej, ej, eb_len hw, pw_same h.len hk hx]
    · rw [if_neg ej, pw_other h.len hk hx ej, eb_slot h hU hj]
theorem by_nil : byB [] = [] := rfl

end Go.Proofs.Ytbgimehbencdgaa
