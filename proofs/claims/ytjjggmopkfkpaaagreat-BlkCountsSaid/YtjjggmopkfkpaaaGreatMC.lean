/-
  What is counted of a manager's blocks: what is needed in all, that one is open at most, that they are right.
-/
import Derived.Test.YtjjggmopkfkpaaaGreatLD
import Derived.Test.YtjjggmopkfkpaaaGreatLG
namespace Gcm
open Go Go.RowKit Crcm

/-- a block as it may stand -/
def Bl (np : Int) (y : Bk) : Prop :=
  (0 ≤ y.nx ∧ y.nx ≤ np) ∧ ((y.st = 0 ∧ y.lv = 0) ∨ (y.st = 1 ∧ 0 ≤ y.lv ∧ y.lv ≤ y.nx ∧ y.nx < np) ∨ (y.st = 2 ∧ 1 ≤ y.lv ∧ y.lv ≤ np) ∨ (y.st = 3 ∧ y.lv = 0) ∨ (y.st = 4 ∧ y.lv = 0))
/-- what is needed in all -/
def sm : List Bk → Int
  | [] => 0
  | y :: l => y.lv + sm l
/-- how many are open -/
def co (l : List Bk) : Nat := l.countP (fun y => y.st == 1)
theorem sm_set : ∀ (l : List Bk) (k : Nat) (y : Bk), k < l.length → sm (l.set k y) = sm l - l[k]!.lv + y.lv := by
  intro l
  induction l with
  | nil => intro k y h; simp at h
  | cons x l ih =>
    intro k y h
    cases k with
    | zero => simp [sm]; omega
    | succ k =>
      have := ih k y (by simpa using h)
      have e : (x :: l)[k + 1]! = l[k]! := by simp
      rw [e]
      simp only [List.set_cons_succ, sm]
      omega
theorem co_set (l : List Bk) (k : Nat) (y : Bk) (h : k < l.length) : co (l.set k y) + (if (l[k]!.st == 1) = true then 1 else 0) = co l + (if (y.st == 1) = true then 1 else 0) := by
  unfold co
  rw [List.countP_set h, getElem!_pos l k h]
  by_cases e : (l[k].st == 1) = true
  · have hpos : 0 < List.countP (fun y : Bk => y.st == 1) l := List.countP_pos_iff.2 ⟨l[k], List.getElem_mem h, e⟩
    rw [if_pos e]
    omega
  · rw [if_neg e]
    omega
/-- what stands of a row -/
structure Ic (np : Int) (l : List Bk) : Prop where
  bl : ∀ k, k < l.length → Bl np l[k]!
  co : co l ≤ 1
theorem Ic.set {np : Int} {l : List Bk} (h : Ic np l) {k : Nat} (hk : k < l.length) {y : Bk} (hy : Bl np y) (ho : (y.st == 1) = true → (l[k]!.st == 1) = true ∨ Gcm.co l = 0) : Ic np (l.set k y) := by
  refine ⟨fun j hj => ?_, ?_⟩
  · rw [List.length_set] at hj
    rw [set_getB _ _ _ _ hj]
    split
    · exact hy
    · exact h.bl j hj
  · have h1 := co_set l k y hk
    have h2 := h.co
    by_cases e : (y.st == 1) = true
    · rw [if_pos e] at h1
      rcases ho e with g | g
      · rw [if_pos g] at h1; omega
      · omega
    · rw [if_neg e] at h1; omega
theorem co_zero {l : List Bk} (h : ∀ j, j < l.length → (l[j]!.st == 1) = false) : co l = 0 := by
  unfold co
  rw [List.countP_eq_zero]
  intro y hy e
  obtain ⟨j, hj, rfl⟩ := List.getElem_of_mem hy
  have := h j hj
  rw [getElem!_pos l j hj] at this
  rw [this] at e; cases e
/-- sums are small -/
theorem sm_bound {np : Int} (hnp : 0 ≤ np) : ∀ (l : List Bk), (∀ y ∈ l, Bl np y) → 0 ≤ sm l ∧ sm l ≤ l.length * np := by
  intro l
  induction l with
  | nil => intro _; simp [sm]
  | cons x l ih =>
    intro h
    obtain ⟨h1, h2⟩ := ih (fun y hy => h y (by simp [hy]))
    have hx := h x (by simp)
    have h3 : 0 ≤ x.lv ∧ x.lv ≤ np := by
      rcases hx with ⟨-, ⟨-, e⟩ | ⟨-, e1, e2, e3⟩ | ⟨-, e1, e2⟩ | ⟨-, e⟩ | ⟨-, e⟩⟩ <;> omega
    have h4 : ((x :: l).length : Int) * np = l.length * np + np := by
      rw [List.length_cons, Int.natCast_add, Int.add_mul]; simp
    rw [h4]
    simp only [sm]
    omega
theorem sm_take : ∀ (l : List Bk) (n : Nat) (_ : n < l.length), sm (l.take (n + 1)) = sm (l.take n) + l[n]!.lv := by
  intro l
  induction l with
  | nil => intro n h; simp at h
  | cons x l ih =>
    intro n h
    cases n with
    | zero => simp [sm]
    | succ n =>
      have := ih n (by simpa using h)
      have e : (x :: l)[n + 1]! = l[n]! := by simp
      rw [e]
      simp only [List.take_succ_cons, sm]
      omega
theorem sm_lvs {np : Int} {l : List Bk} (hn0 : 0 ≤ np) (hn : np ≤ 32) (hl : l.length ≤ 128) (h : ∀ k, k < l.length → Bl np l[k]!) : ∀ n, n ≤ l.length → lvs l n = sm (l.take n) := by
  intro n
  induction n with
  | zero => intro _; rfl
  | succ n ih =>
    intro hln
    rw [lvs, ih (by omega), sm_take l n (by omega)]
    have hb := sm_bound (np := np) hn0 (l.take (n + 1)) (fun y hy => by
      obtain ⟨j, hj, rfl⟩ := List.getElem_of_mem (List.mem_of_mem_take hy)
      have := h j hj
      rw [getElem!_pos l j hj] at this
      exact this)
    rw [sm_take l n (by omega)] at hb
    have hlen : (l.take (n + 1)).length = n + 1 := by rw [List.length_take]; omega
    rw [hlen] at hb
    have h9 : ((n + 1 : Nat) : Int) * np ≤ 128 * 32 := Int.mul_le_mul (by omega) hn hn0 (by omega)
    unfold wrap64
    omega
theorem co_take : ∀ (l : List Bk) (n : Nat) (_ : n < l.length), co (l.take (n + 1)) = co (l.take n) + (if (l[n]!.st == 1) = true then 1 else 0) := by
  intro l n h
  unfold co
  rw [List.take_succ_eq_append_getElem h, List.countP_append, getElem!_pos l n h]
  congr 1
  by_cases e : (l[n].st == 1) = true
  · simp [e]
  · simp [e]
theorem co_cnt {l : List Bk} (hl : l.length ≤ 128) : ∀ n, n ≤ l.length → cnt 1 l n = co (l.take n) := by
  intro n
  induction n with
  | zero => intro _; rfl
  | succ n ih =>
    intro hln
    have hb : co (l.take (n + 1)) ≤ n + 1 := Nat.le_trans List.countP_le_length (by rw [List.length_take]; omega)
    rw [co_take l n (by omega)] at hb ⊢
    rw [cnt, ih (by omega)]
    by_cases e : (l[n]!.st == 1) = true
    · rw [if_pos e] at hb ⊢
      rw [if_pos e]
      unfold wrap64
      omega
    · rw [if_neg e] at hb ⊢
      rw [if_neg e]
      simp
end Gcm
namespace Go.Proofs.YtjjggmopkfkpaaaGreat
open Go.RowKit Crcm Gcm Go.ChangeShapes

theorem obI_ic {np : Int} (hnp : 1 ≤ np) (f : Nat → Int) {l : List Bk} (h : Ic np l) : Ic np (obI f l).2 ∧ sm (obI f l).2 = sm l := by
  unfold obI
  by_cases g : fop l < l.length
  · rw [if_pos g]; exact ⟨h, rfl⟩
  · rw [if_neg g]
    by_cases g2 : ob f l l.length < 0
    · rw [if_pos g2]; exact ⟨h, rfl⟩
    · rw [if_neg g2]
      have hlt := (ob_lt f l l.length).2
      have hkl : (ob f l l.length).toNat < l.length := by omega
      have hst : ∀ n, 0 ≤ ob f l n → (l[(ob f l n).toNat]!.st == 0) = true := by
        intro n
        induction n with
        | zero => intro q; simp [ob] at q
        | succ n ih =>
          rw [ob]
          split
          · rename_i s0
            split
            · intro _; rw [Int.toNat_natCast]; exact s0
            · rename_i s1; intro q; exact ih q
          · intro q; exact ih q
      have hs := beq_iff_eq.1 (hst l.length (by omega))
      have hlv : l[(ob f l l.length).toNat]!.lv = 0 := by
        rcases h.bl _ hkl with ⟨-, ⟨-, e⟩ | ⟨e, -⟩ | ⟨e, -⟩ | ⟨-, e⟩ | ⟨-, e⟩⟩
        · exact e
        · rw [hs] at e; exact absurd e (by decide)
        · rw [hs] at e; exact absurd e (by decide)
        · exact e
        · exact e
      have hno : co l = 0 := by
        rcases fop_cases l with ⟨q, hq, -, -, a3⟩ | ⟨a1, -⟩
        · omega
        · exact co_zero a1
      refine ⟨h.set hkl ⟨⟨by show (0 : Int) ≤ 0; omega, by show (0 : Int) ≤ np; omega⟩, .inr (.inl ⟨rfl, by show (0 : Int) ≤ 0; omega, by show (0 : Int) ≤ 0; omega, by show (0 : Int) < np; omega⟩)⟩ (fun _ => .inr hno), ?_⟩
      rw [sm_set _ _ _ hkl, hlv]
      show sm l - 0 + 0 = sm l
      omega

theorem clsB_bl {np : Int} {y : Bk} (h : Bl np y) (h1 : y.st = 1) : Bl np (clsB y) ∧ (clsB y).lv = y.lv ∧ ((clsB y).st == 1) = false := by
  obtain ⟨st, lv, wr, nx⟩ := y
  obtain ⟨hn, h2⟩ := h
  dsimp only at h1 hn h2
  subst h1
  have h3 : 0 ≤ lv ∧ lv ≤ nx ∧ nx < np := by
    rcases h2 with ⟨e, -⟩ | ⟨-, e⟩ | ⟨e, -⟩ | ⟨e, -⟩ | ⟨e, -⟩
    · exact absurd e (by decide)
    · exact e
    · exact absurd e (by decide)
    · exact absurd e (by decide)
    · exact absurd e (by decide)
  unfold clsB closeB
  dsimp only
  split
  · exact ⟨⟨hn, .inr (.inr (.inl ⟨rfl, by show 1 ≤ lv; omega, by show lv ≤ np; omega⟩))⟩, rfl, rfl⟩
  · exact ⟨⟨hn, .inr (.inr (.inr (.inl ⟨rfl, by show lv = 0; omega⟩)))⟩, rfl, rfl⟩
theorem fillB_bl {np : Int} (hn0 : 1 ≤ np ∧ np ≤ 32) {y : Bk} (h : Bl np y) (h1 : y.st = 1) : Bl np (fillB np y) ∧ (fillB np y).lv = y.lv + 1 := by
  obtain ⟨st, lv, wr, nx⟩ := y
  obtain ⟨hn, h2⟩ := h
  dsimp only at h1 hn h2
  subst h1
  have h3 : 0 ≤ lv ∧ lv ≤ nx ∧ nx < np := by
    rcases h2 with ⟨e, -⟩ | ⟨-, e⟩ | ⟨e, -⟩ | ⟨e, -⟩ | ⟨e, -⟩
    · exact absurd e (by decide)
    · exact e
    · exact absurd e (by decide)
    · exact absurd e (by decide)
    · exact absurd e (by decide)
  have w1 : wrap64 (nx + 1) = nx + 1 := by unfold wrap64; omega
  have w2 : wrap64 (lv + 1) = lv + 1 := by unfold wrap64; omega
  unfold fillB
  dsimp only
  rw [w1, w2]
  refine ⟨⟨⟨by show 0 ≤ nx + 1; omega, by show nx + 1 ≤ np; omega⟩, ?_⟩, rfl⟩
  dsimp only
  by_cases e : nx + 1 = np
  · rw [if_pos e]
    exact .inr (.inr (.inl ⟨rfl, by omega, by omega⟩))
  · rw [if_neg e]
    exact .inr (.inl ⟨rfl, by omega, by omega, by omega⟩)

/-- a page programmed: one more is needed, or as many -/
theorem prgF_ic (b : List Int) : ∀ (j : Nat) (l : List Bk) (c : Ch), 1 ≤ (c.np : Int) ∧ (c.np : Int) ≤ 32 → fo l < j → Ic c.np l → Ic c.np (prgF b j l c).2.1 ∧ sm (prgF b j l c).2.1 = sm l + (if (prgF b j l c).1.2.2 = 0 then 1 else 0) ∧ (prgF b j l c).2.2.np = c.np ∧ (prgF b j l c).2.2.wear = c.wear := by
  intro j
  induction j with
  | zero => intro l c _ h; omega
  | succ j ih =>
    intro l c hnp hf h
    have h0 := obI_ic hnp.1 c.wear h
    by_cases hneg : (obI c.wear l).1 < 0
    · rw [prgF_full hneg]
      exact ⟨h0.1, by show sm (obI c.wear l).2 = sm l + (if (40 : Int) = 0 then 1 else 0); rw [h0.2, if_neg (by decide)]; omega, rfl, rfl⟩
    obtain ⟨k, l1, hkl⟩ : ∃ (k : Nat) (l1 : List Bk), obI c.wear l = ((k : Int), l1) := ⟨(obI c.wear l).1.toNat, (obI c.wear l).2, by
      apply Prod.ext
      · dsimp only; omega
      · rfl⟩
    rw [hkl] at h0
    dsimp only at h0
    obtain ⟨i1, i2⟩ := h0
    obtain ⟨g1, g2, g3, g4⟩ := obI_fo _ _ hkl
    have hk1 : k < l1.length := by rw [g2]; exact g1
    have hst := beq_iff_eq.1 g4
    obtain ⟨E, hE⟩ : ∃ E, pgE c k l1[k]!.nx b.length = E := ⟨_, rfl⟩
    have hw : (pgC c k l1[k]!.nx b).np = c.np ∧ (pgC c k l1[k]!.nx b).wear = c.wear := by
      refine ⟨(pgC_same _ _ _ _).2, ?_⟩
      unfold pgC
      split
      · unfold prC endC
        split <;> (split <;> first | rfl | (split <;> rfl))
      · rfl
    rw [prgF_ok hkl rfl rfl hE]
    by_cases e0 : E = 0
    · rw [if_pos e0]
      obtain ⟨f1, f2⟩ := fillB_bl hnp (i1.bl k hk1) hst
      refine ⟨i1.set hk1 f1 (fun _ => .inl g4), ?_, hw.1, hw.2⟩
      show sm (l1.set k (fillB c.np l1[k]!)) = sm l + (if (0 : Int) = 0 then 1 else 0)
      rw [sm_set _ _ _ hk1, f2, i2, if_pos rfl]
      omega
    rw [if_neg e0]
    obtain ⟨f1, f2, f3⟩ := clsB_bl (i1.bl k hk1) hst
    have hcl : Ic c.np (l1.set k (clsB l1[k]!)) := i1.set hk1 f1 (fun e => by rw [f3] at e; cases e)
    have hsl : sm (l1.set k (clsB l1[k]!)) = sm l := by rw [sm_set _ _ _ hk1, f2, i2]; omega
    by_cases e1 : E = 11
    · rw [if_pos e1]
      refine ⟨hcl, ?_, hw.1, hw.2⟩
      show sm (l1.set k (clsB l1[k]!)) = sm l + (if (11 : Int) = 0 then 1 else 0)
      rw [hsl, if_neg (by decide)]; omega
    rw [if_neg e1]
    by_cases e2 : E = 10
    · rw [if_pos e2]
      have hc := fo_close hk1 g4
      have := ih (l1.set k (clsB l1[k]!)) (pgC c k l1[k]!.nx b) (by rw [hw.1]; exact hnp) (by omega) (by rw [hw.1]; exact hcl)
      rw [hw.1, hw.2, hsl] at this
      exact this
    · rw [if_neg e2]
      refine ⟨i1, ?_, hw.1, hw.2⟩
      show sm l1 = sm l + (if E = 0 then 1 else 0)
      rw [i2, if_neg e0]; omega
theorem prgT_ic (b : List Int) {l : List Bk} {c : Ch} (hnp : 1 ≤ (c.np : Int) ∧ (c.np : Int) ≤ 32) (h : Ic c.np l) : Ic c.np (prgT b l c).2.1 ∧ sm (prgT b l c).2.1 = sm l + (if (prgT b l c).1.2.2 = 0 then 1 else 0) ∧ (prgT b l c).2.2.np = c.np ∧ (prgT b l c).2.2.wear = c.wear := by
  unfold prgT
  split
  · split
    · exact prgF_ic b _ l c hnp (Nat.lt_succ_of_le (fo_le l)) h
    · exact ⟨h, by show sm l = sm l + (if (1 : Int) = 0 then 1 else 0); rw [if_neg (by decide)]; omega, rfl, rfl⟩
  · exact ⟨h, by show sm l = sm l + (if (4 : Int) = 0 then 1 else 0); rw [if_neg (by decide)]; omega, rfl, rfl⟩

theorem dpT_ic {np : Int} (hn0 : 1 ≤ np ∧ np ≤ 32) (k : Int) {l : List Bk} (h : Ic np l) : Ic np (dpT k l).2 ∧ sm (dpT k l).2 = sm l - (if (dpT k l).1 = 0 then 1 else 0) := by
  unfold dpT
  split
  · rename_i hk
    obtain ⟨n, rfl⟩ : ∃ n : Nat, k = n := ⟨k.toNat, by omega⟩
    rw [Int.toNat_natCast] at hk ⊢
    have hn : n < l.length := by omega
    have hb := h.bl n hn
    have hz := hk.2.2
    obtain ⟨y, hy⟩ : ∃ y, l[n]! = y := ⟨_, rfl⟩
    rw [hy] at hb hz ⊢
    obtain ⟨st, lv, wr, nx⟩ := y
    obtain ⟨g0, g⟩ := hb
    dsimp only at hz g0 g ⊢
    have w1 : lv ≤ 32 ∧ 1 ≤ lv := by rcases g with ⟨-, e⟩ | ⟨-, e1, e2, e3⟩ | ⟨-, e1, e2⟩ | ⟨-, e⟩ | ⟨-, e⟩ <;> omega
    have w2 : wrap64 (lv - 1) = lv - 1 := by unfold wrap64; omega
    have hd : Bl np (dropB st lv wr nx) ∧ (dropB st lv wr nx).lv = lv - 1 ∧ (((dropB st lv wr nx).st == 1) = true → (st == 1) = true) := by
      unfold dropB
      rw [w2]
      rcases g with ⟨-, e⟩ | ⟨e0, e1, e2, e3⟩ | ⟨e0, e1, e2⟩ | ⟨-, e⟩ | ⟨-, e⟩
      · omega
      · subst e0
        rw [if_neg (fun q => by have := q.1; cases this)]
        exact ⟨⟨g0, .inr (.inl ⟨rfl, by show 0 ≤ lv - 1; omega, by show lv - 1 ≤ nx; omega, e3⟩)⟩, rfl, fun q => q⟩
      · subst e0
        by_cases e : lv - 1 = 0
        · rw [if_pos ⟨rfl, beq_iff_eq.2 e⟩]
          exact ⟨⟨g0, .inr (.inr (.inr (.inl ⟨rfl, e⟩)))⟩, rfl, fun q => by cases q⟩
        · rw [if_neg (fun q => e (beq_iff_eq.1 q.2))]
          exact ⟨⟨g0, .inr (.inr (.inl ⟨rfl, by show 1 ≤ lv - 1; omega, by show lv - 1 ≤ np; omega⟩))⟩, rfl, fun q => q⟩
      · omega
      · omega
    refine ⟨h.set hn hd.1 (fun q => .inl (by rw [hy]; exact hd.2.2 q)), ?_⟩
    rw [sm_set _ _ _ hn, hd.2.1, hy, if_pos rfl]
    show sm l - lv + (lv - 1) = sm l - 1
    omega
  · exact ⟨h, by show sm l = sm l - (if (1 : Int) = 0 then 1 else 0); rw [if_neg (by decide)]; omega⟩
theorem ndE_lv {np : Int} {up : Bool} {l : List Bk} {k : Int} (h : Ic np l) (he : ndE up l k = 0) : (0 ≤ k ∧ k.toNat < l.length) ∧ l[k.toNat]!.lv = 0 := by
  unfold ndE at he
  split at he
  · split at he
    · cases he
    · rename_i g
      have g1 : ¬ k < 0 := fun q => g (.inl q)
      have g2 : ¬ (l.length : Int) ≤ k := fun q => g (.inr (.inl q))
      have g3 : ¬ 0 < l[k.toNat]!.lv := fun q => g (.inr (.inr (.inr q)))
      refine ⟨⟨by omega, by omega⟩, ?_⟩
      rcases h.bl k.toNat (by omega) with ⟨-, ⟨-, e⟩ | ⟨-, e1, e2, e3⟩ | ⟨-, e1, e2⟩ | ⟨-, e⟩ | ⟨-, e⟩⟩ <;> omega
  · cases he
theorem zero_ic {np : Int} (hn0 : 1 ≤ np) {l : List Bk} (h : Ic np l) {k : Nat} (hk : k < l.length) (hz : l[k]!.lv = 0) (s : Int) (hs : s = 0 ∨ s = 4) : Ic np (l.set k ⟨s, 0, 0, 0⟩) ∧ sm (l.set k ⟨s, 0, 0, 0⟩) = sm l := by
  refine ⟨h.set hk ⟨⟨by show (0 : Int) ≤ 0; omega, by show (0 : Int) ≤ np; omega⟩, ?_⟩ (fun q => ?_), ?_⟩
  · rcases hs with rfl | rfl
    · exact .inl ⟨rfl, rfl⟩
    · exact .inr (.inr (.inr (.inr ⟨rfl, rfl⟩)))
  · rcases hs with rfl | rfl
    · cases q
    · cases q
  · rw [sm_set _ _ _ hk, hz]
    show sm l - 0 + 0 = sm l
    omega
theorem eraT_ic {np : Int} (hn0 : 1 ≤ np) (k : Int) {l : List Bk} (c : Ch) (h : Ic np l) : Ic np (eraT k l c).2.1 ∧ sm (eraT k l c).2.1 = sm l := by
  unfold eraT
  split
  · rename_i hd
    obtain ⟨⟨h1, h2⟩, h3⟩ := ndE_lv h hd
    split
    · exact ⟨h, rfl⟩
    · split
      · exact zero_ic hn0 h h2 h3 0 (.inl rfl)
      · split
        · exact zero_ic hn0 h h2 h3 4 (.inr rfl)
        · exact ⟨h, rfl⟩
  · exact ⟨h, rfl⟩
theorem retT_ic {np : Int} (hn0 : 1 ≤ np) (k : Int) {l : List Bk} (c : Ch) (h : Ic np l) : Ic np (retT k l c).2.1 ∧ sm (retT k l c).2.1 = sm l ∧ (retT k l c).2.2.wear = c.wear := by
  unfold retT
  split
  · rename_i hd
    obtain ⟨⟨h1, h2⟩, h3⟩ := ndE_lv h hd
    have := zero_ic hn0 h h2 h3 4 (.inr rfl)
    exact ⟨this.1, this.2, rfl⟩
  · exact ⟨h, rfl, rfl⟩
/-- erase counts so far -/
def Wr (c : Ch) (i : Nat) : Prop := ∀ k, 0 ≤ c.wear k ∧ c.wear k ≤ i
theorem egC_wear (c : Ch) (k : Int) (j : Nat) : (egC c k).wear j = c.wear j ∨ (egC c k).wear j = wrap64 (c.wear j + 1) := by
  unfold egC
  split
  · have h1 : (erD c k.toNat).wear = c.wear ∨ (erD c k.toNat).wear = up1 c.wear k.toNat (wrap64 (c.wear k.toNat + 1)) := by
      unfold erD endC
      split <;> (split <;> first | exact .inl rfl | (split <;> first | exact .inl rfl | exact .inr rfl))
    rcases h1 with h1 | h1
    · exact .inl (by rw [h1])
    · rw [h1]
      unfold up1
      split
      · rename_i e; rw [e]; exact .inr rfl
      · exact .inl rfl
  · exact .inl rfl
theorem eraT_wr (k : Int) (l : List Bk) {c : Ch} {i : Nat} (hi : i ≤ 9000) (h : Wr c i) : Wr (eraT k l c).2.2 (i + 1) := by
  have h1 : ∀ j, (eraT k l c).2.2.wear j = c.wear j ∨ (eraT k l c).2.2.wear j = wrap64 (c.wear j + 1) := by
    intro j
    unfold eraT
    split
    · split
      · exact .inl rfl
      · split
        · exact egC_wear c k j
        · split
          · exact egC_wear c k j
          · exact egC_wear c k j
    · exact .inl rfl
  intro j
  obtain ⟨a, b⟩ := h j
  rcases h1 j with e | e
  · rw [e]; omega
  · rw [e]; unfold wrap64; omega
theorem Wr.mono {c c' : Ch} {i : Nat} (h : Wr c i) (e : c'.wear = c.wear) : Wr c' (i + 1) := fun j => by rw [e]; have := h j; omega
end Go.Proofs.YtjjggmopkfkpaaaGreat

/-
  A manager's blocks with their erase counts, and those of a new manager: what is counted of them. Nothing of one statement alone stands here.
-/
namespace Go.Proofs.YtjjggmopkfkpaaaGreat
open Go.RowKit Crcm Gcm Go.ChangeShapes

theorem wk_atS (f : Nat → Int) (l : List Bk) (j : Nat) (hj : j < l.length) : ∀ n, n ≤ l.length → (wk f l n)[j]! = if j < n then (setf l[j]! 2 (f j)) else l[j]! := by
  intro n
  induction n with
  | zero => intro _; rw [if_neg (by omega)]; rfl
  | succ n ih =>
    intro hn
    have := ih (by omega)
    rw [wk, set_getB _ _ _ _ (by rw [wk_length]; exact hj)]
    by_cases e : n = j
    · subst e
      rw [if_pos rfl, if_pos (by omega), this, if_neg (by omega)]
    · rw [if_neg e, this]
      by_cases g : j < n
      · rw [if_pos g, if_pos (by omega)]
      · rw [if_neg g, if_neg (by omega)]
theorem Ic.wk {np : Int} {l : List Bk} (h : Ic np l) (f : Nat → Int) : ∀ n, n ≤ l.length → Ic np (Go.Proofs.YtjjggmopkfkpaaaGreat.wk f l n) ∧ sm (Go.Proofs.YtjjggmopkfkpaaaGreat.wk f l n) = sm l := by
  intro n
  induction n with
  | zero => intro _; exact ⟨h, rfl⟩
  | succ n ih =>
    intro hn
    obtain ⟨h1, h2⟩ := ih (by omega)
    have hk : n < (Go.Proofs.YtjjggmopkfkpaaaGreat.wk f l n).length := by rw [wk_length]; omega
    rw [Go.Proofs.YtjjggmopkfkpaaaGreat.wk]
    refine ⟨h1.set hk (h1.bl n hk) (fun q => .inl q), ?_⟩
    rw [sm_set _ _ _ hk, h2]
    show sm l - (Go.Proofs.YtjjggmopkfkpaaaGreat.wk f l n)[n]!.lv + (Go.Proofs.YtjjggmopkfkpaaaGreat.wk f l n)[n]!.lv = sm l
    omega
theorem Ic.rt {np : Int} {l : List Bk} (h : Ic np l) (hnp : 1 ≤ np ∧ np ≤ 32) (f : Nat → Int) (hf : ∀ k, 0 ≤ f k ∧ f k ≤ 1099511627776) : Rt (Go.Proofs.YtjjggmopkfkpaaaGreat.wk f l l.length) np := by
  refine ⟨hnp, fun b hb => ?_⟩
  obtain ⟨j, hj, rfl⟩ := List.getElem_of_mem hb
  rw [wk_length] at hj
  have h1 := wk_atS f l j hj l.length (Nat.le_refl _)
  rw [if_pos hj, getElem!_pos _ _ (by rw [wk_length]; exact hj)] at h1
  rw [h1]
  have h2 := h.bl j hj
  have h3 := hf j
  generalize l[j]! = y at h2 ⊢
  obtain ⟨st, lv, wr, nx⟩ := y
  obtain ⟨g0, g⟩ := h2
  show 0 ≤ st ∧ st ≤ 4 ∧ 0 ≤ lv ∧ lv ≤ np ∧ 0 ≤ nx ∧ nx ≤ np ∧ 0 ≤ f j ∧ f j ≤ 1099511627776 ∧ (0 < lv → st = 1 ∨ st = 2)
  dsimp only at g0 g
  omega
theorem wk_bwS {f : Nat → Int} {l : List Bk} {np : Int} (hnp : 1 ≤ np ∧ np ≤ 32) (h : Rt (Go.Proofs.YtjjggmopkfkpaaaGreat.wk f l l.length) np) : ∀ x ∈ Go.Proofs.YtjjggmopkfkpaaaGreat.wk f l l.length, Bw x := by
  intro x hx
  have h1 := h.2 x hx
  unfold Gcm.Rb at h1
  unfold Bw I64
  omega
theorem rows_ic {nb np : Nat} {bd f : Nat → Bool} {lv : Nat → Int} (h : ∀ j, j < nb → okB np (f j) (lv j) = true) : Ic np (rows bd f lv nb) := by
  have hat : ∀ k, k < nb → (rows bd f lv nb)[k]! = bkOf bd f lv k := fun k hk => by
    rw [getElem!_pos _ _ (by rw [rows_length]; exact hk)]
    unfold rows
    rw [List.getElem_map, List.getElem_range]
  have hb : ∀ k, k < nb → Bl np (bkOf bd f lv k) ∧ ((bkOf bd f lv k).st == 1) = false := fun k hk => by
    have h1 := h k hk
    unfold okB at h1
    simp only [Bool.and_eq_true, decide_eq_true_eq] at h1
    have hz : (0 : Int) ≤ 0 ∧ (0 : Int) ≤ np := by omega
    unfold bkOf
    split
    · exact ⟨⟨hz, .inr (.inr (.inr (.inr ⟨rfl, rfl⟩)))⟩, rfl⟩
    · split
      · exact ⟨⟨hz, .inl ⟨rfl, rfl⟩⟩, rfl⟩
      · split
        · exact ⟨⟨hz, .inr (.inr (.inl ⟨rfl, by show 1 ≤ lv k; omega, by show lv k ≤ np; omega⟩))⟩, rfl⟩
        · exact ⟨⟨hz, .inr (.inr (.inr (.inl ⟨rfl, rfl⟩)))⟩, rfl⟩
  refine ⟨fun k hk => ?_, ?_⟩
  · rw [rows_length] at hk
    rw [hat k hk]; exact (hb k hk).1
  · rw [co_zero (fun j hj => by rw [rows_length] at hj; rw [hat j hj]; exact (hb j hj).2)]
    omega
end Go.Proofs.YtjjggmopkfkpaaaGreat
