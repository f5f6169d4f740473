/-
  What stands while pages are programmed and dropped and blocks erased as is next: blocks wear alike.
-/
import Derived.Test.YtnnpdlebgfjihaaBlkEra
import Derived.Test.YtnnpdlebgfjihaaBlkPrgW
import Derived.Test.YtnnpdlebgfjihaaBlkDrop
namespace Gcm
/-- what may be erased next, if it is to be erased or burned -/
theorem nxt_wear {l : List Bk} {p : Int} {room : Bool} (h : (nxt l p room).1 = 1 ∨ (nxt l p room).1 = 3) :
    ∃ q : Nat, q < l.length ∧ (nxt l p room).2 = q ∧ l[q]!.st ≠ 4 ∧ l[q]!.wr ≤ least l + 3 ∧ (l[q]!.st = 3 ∨ l[q]!.st = 0 ∨ (l[q]!.st = 1 ∧ l[q]!.nx = 0)) := by
  by_cases hR : Rt l p
  case neg =>
    unfold nxt at h
    rw [if_neg hR] at h
    rcases h with h | h <;> cases h
  rw [nxt_look hR] at h ⊢
  rcases look_cases room l (srs p (least l)) with ⟨e, _⟩ | ⟨i, hi, _, hh, e⟩
  · rw [e] at h
    rcases h with h | h <;> cases h
  · rw [e] at h ⊢
    have hi6 : i < 6 := hi
    have hb : 0 ≤ best (srs p (least l))[i]!.fit (srs p (least l))[i]!.bt l l.length := by
      unfold hit at hh
      simp only [Bool.and_eq_true, decide_eq_true_eq] at hh
      exact hh.2
    have hf := best_fit _ _ l l.length hb
    have hlt := best_lt (srs p (least l))[i]!.fit (srs p (least l))[i]!.bt l l.length
    refine ⟨(best (srs p (least l))[i]!.fit (srs p (least l))[i]!.bt l l.length).toNat, by omega, by omega, ?_⟩
    generalize l[(best (srs p (least l))[i]!.fit (srs p (least l))[i]!.bt l l.length).toNat]! = b at hf
    have h02 : i = 0 ∨ i = 2 := by
      match i, hi6 with
      | 0, _ => exact .inl rfl
      | 1, _ => exact absurd (show (2 : Int) = 1 ∨ (2 : Int) = 3 from h) (by decide)
      | 2, _ => exact .inr rfl
      | 3, _ => exact absurd (show (2 : Int) = 1 ∨ (2 : Int) = 3 from h) (by decide)
      | 4, _ => exact absurd (show (4 : Int) = 1 ∨ (4 : Int) = 3 from h) (by decide)
      | 5, _ => exact absurd (show (4 : Int) = 1 ∨ (4 : Int) = 3 from h) (by decide)
      | i + 6, h => omega
    rcases h02 with rfl | rfl
    · have : (stale b && may (least l) b) = true := hf
      simp [stale, may] at this
      omega
    · have : (empty b && atLeast (least l) b) = true := hf
      simp [empty, atLeast] at this
      omega
end Gcm
namespace Go.Proofs.Ytnnpdlebgfjihaa
open Go.RowKit Crcm Gcm Go.ChangeShapes

/-- a block as it stands, and its pages -/
def Bs (f : Nat → Option (List Int)) (y : Bk) : Prop :=
  (y.st = 0 ∧ y.lv = 0 ∧ y.nx = 0 ∧ nx f 8 = 0) ∨ (y.st = 1 ∧ 0 ≤ y.lv ∧ y.lv ≤ y.nx ∧ y.nx < 8 ∧ (nx f 8 : Int) = y.nx) ∨ (y.st = 2 ∧ 1 ≤ y.lv ∧ y.lv ≤ 8) ∨ (y.st = 3 ∧ y.lv = 0)
/-- what stands behind so many steps -/
structure Iv (l : List Bk) (c : Ch) (held : List Int) (n : Nat) : Prop where
  len : l.length = 16
  nb : c.nb = 16
  np : c.np = 8
  sz : c.sz = 64
  up : c.up = true
  fl : c.fl = []
  cln : ∀ k, k < 16 → c.bad k = false ∧ c.broken k = false
  ble : ∀ k, k < 16 → Bs (c.pg k) l[k]!
  cnt : ∀ k : Nat, k < 16 → l[k]!.lv = (held.count (k : Int) : Nat)
  hin : ∀ x ∈ held, 0 ≤ x ∧ x < 16
  wr : ∀ k, k < 16 → 0 ≤ c.wear k ∧ c.wear k ≤ n
  gap : ∀ j k, j < 16 → k < 16 → c.wear k ≤ c.wear j + 4

theorem wrap_small {x : Int} (h : -100000 ≤ x ∧ x ≤ 100000) : wrap64 x = x := IntWalk.wrap64_in _ ⟨by omega, by omega⟩
theorem fnd_nil (n : Int) : fnd [] n = ⟨0, 0, []⟩ := rfl

/-- a page dropped -/
theorem Iv.drop {l : List Bk} {c : Ch} {held : List Int} {n : Nat} (h : Iv l c held n) (k : Nat) (hk : (k : Int) ∈ held) (held' : List Int) (hp : ∀ x : Int, held'.count x = if x = k then held.count x - 1 else held.count x) :
    k < 16 ∧ (l[k]!.lv == 0) = false ∧ I64 (wrap64 (l[k]!.lv - 1)) ∧ Iv (l.set k (dropB l[k]!.st l[k]!.lv l[k]!.wr l[k]!.nx)) c held' n := by
  have hk16 : k < 16 := by have := h.hin _ hk; omega
  have hcn := h.cnt k hk16
  have hpos : 0 < held.count (k : Int) := List.count_pos_iff.2 hk
  have hb := h.ble k hk16
  have hkl : k < l.length := by rw [h.len]; exact hk16
  obtain ⟨y, hy⟩ : ∃ y, l[k]! = y := ⟨_, rfl⟩
  rw [hy] at hcn hb ⊢
  have h8 : y.lv ≤ 8 := by unfold Bs at hb; omega
  have hwp : wrap64 (y.lv - 1) = y.lv - 1 := wrap_small ⟨by omega, by omega⟩
  refine ⟨hk16, beq_eq_false_iff_ne.2 (by omega), i64_wrap _, ?_⟩
  refine ⟨by rw [List.length_set]; exact h.len, h.nb, h.np, h.sz, h.up, h.fl, h.cln, fun j hj => ?_, fun j hj => ?_, fun x hx => ?_, h.wr, h.gap⟩
  · rw [set_getB _ _ _ _ (show j < l.length by rw [h.len]; exact hj)]
    by_cases e : k = j
    · subst e
      rw [if_pos rfl]
      unfold dropB
      rw [hwp]
      unfold Bs at hb ⊢
      split
      · rename_i g
        obtain ⟨g1, g2⟩ := g
        have g1 : y.st = 2 := by simpa using g1
        have g2 : y.lv - 1 = 0 := by simpa using g2
        dsimp only
        omega
      · rename_i g
        have g : ¬ (y.st = 2 ∧ y.lv - 1 = 0) := fun q => g ⟨by simpa using q.1, by simpa using q.2⟩
        dsimp only
        omega
    · rw [if_neg e]
      exact h.ble j hj
  · rw [set_getB _ _ _ _ (show j < l.length by rw [h.len]; exact hj), hp]
    by_cases e : k = j
    · subst e
      rw [if_pos rfl, if_pos rfl]
      unfold dropB
      rw [hwp]
      have : y.lv - 1 = ((held.count (k : Int) - 1 : Nat) : Int) := by omega
      split <;> exact this
    · rw [if_neg e, if_neg (by omega)]
      exact h.cnt j hj
  · have : 0 < held'.count x := List.count_pos_iff.2 hx
    rw [hp] at this
    refine h.hin x (List.count_pos_iff.1 ?_)
    split at this <;> omega

theorem ob_none (f : Nat → Int) (l : List Bk) : ∀ n, ob f l n < 0 → ∀ j, j < n → (l[j]!.st == 0) = false := by
  intro n
  induction n with
  | zero => intro _ j hj; omega
  | succ n ih =>
    intro h j hj
    rw [ob] at h
    cases hs : l[n]!.st == 0 with
    | true =>
      rw [if_pos hs] at h
      split at h
      · omega
      · rename_i g
        exact absurd (.inl h) g
    | false =>
      rw [if_neg (by rw [hs]; decide)] at h
      by_cases e : j = n
      · subst e; exact hs
      · exact ih h j (by omega)
theorem ob_free (f : Nat → Int) (l : List Bk) : ∀ n, 0 ≤ ob f l n → (l[(ob f l n).toNat]!.st == 0) = true := by
  intro n
  induction n with
  | zero => intro q; simp [ob] at q
  | succ n ih =>
    rw [ob]
    split
    · rename_i s0
      split
      · intro _; rw [Int.toNat_natCast]; exact s0
      · rename_i s1; intro q; exact ih q
    · intro q; exact ih q
/-- a block opened -/
theorem Iv.open {l l1 : List Bk} {c : Ch} {held : List Int} {n k : Nat} (h : Iv l c held n) (ho : obI c.wear l = ((k : Int), l1)) : k < 16 ∧ l1[k]!.st = 1 ∧ Iv l1 c held n := by
  obtain ⟨g1, g2, -, g4⟩ := obI_fo _ _ ho
  have hk : k < 16 := by rw [← h.len]; exact g1
  have g4 : l1[k]!.st = 1 := by simpa using g4
  refine ⟨hk, g4, ?_⟩
  unfold obI at ho
  by_cases g : fop l < l.length
  · rw [if_pos g] at ho
    obtain ⟨-, rfl⟩ := Prod.mk.inj ho
    exact h
  · rw [if_neg g] at ho
    by_cases g3 : ob c.wear l l.length < 0
    · rw [if_pos g3] at ho
      obtain ⟨e, -⟩ := Prod.mk.inj ho
      omega
    · rw [if_neg g3] at ho
      obtain ⟨e, e2⟩ := Prod.mk.inj ho
      have hf := ob_free c.wear l l.length (by omega)
      have hq : (ob c.wear l l.length).toNat = k := by omega
      rw [hq] at e2 hf
      have hf : l[k]!.st = 0 := by simpa using hf
      subst e2
      refine ⟨by rw [List.length_set]; exact h.len, h.nb, h.np, h.sz, h.up, h.fl, h.cln, fun j hj => ?_, fun j hj => ?_, h.hin, h.wr, h.gap⟩
      · rw [set_getB _ _ _ _ (show j < l.length by rw [h.len]; exact hj)]
        by_cases e : k = j
        · subst e
          rw [if_pos rfl]
          have := h.ble k hk
          unfold Bs at this ⊢
          dsimp only
          omega
        · rw [if_neg e]
          exact h.ble j hj
      · rw [set_getB _ _ _ _ (show j < l.length by rw [h.len]; exact hj)]
        by_cases e : k = j
        · subst e
          rw [if_pos rfl, ← h.cnt k hk]
          have := h.ble k hk
          unfold Bs at this
          dsimp only
          omega
        · rw [if_neg e]
          exact h.cnt j hj
theorem nx_put (f : Nat → Option (List Int)) (b : List Int) (p : Nat) : ∀ n, p < n → nx f n = p → nx (up1 f p (some b)) n = p + 1 := by
  intro n
  induction n with
  | zero => intro h; omega
  | succ n ih =>
    intro h e
    rw [nx] at e ⊢
    by_cases ep : p = n
    · subst ep
      rw [up1_at, if_pos (show (some b).isSome = true from rfl)]
    · split at e
      · omega
      · rename_i g
        rw [up1_ne _ _ (fun q => ep q.symm), if_neg g]
        exact ih (by omega) e
theorem nx_wiped : ∀ n, nx (fun _ => none) n = 0 := by
  intro n
  induction n with
  | zero => rfl
  | succ n ih => rw [nx, if_neg (by simp)]; exact ih

/-- a page programmed, or none, since there is no room -/
theorem Iv.prog {l : List Bk} {c : Ch} {held : List Int} {n : Nat} (h : Iv l c held n) (b : List Int) (hb : b.length = 96) :
    (∃ (k : Nat) (p : Int) (l' : List Bk) (c' : Ch), prgT b l c = (((k : Int), p, 0), l', c') ∧ Iv l' c' (held ++ [(k : Int)]) n) ∨
    (prgT b l c = ((0, 0, 40), l, c) ∧ ∀ k, k < 16 → l[k]!.st ≠ 0 ∧ l[k]!.st ≠ 1) := by
  have hT : prgT b l c = prgF b (l.length + 1) l c := by
    unfold prgT
    rw [if_pos h.up, if_pos (by rw [h.sz]; exact hb)]
  rw [hT]
  by_cases hneg : (obI c.wear l).1 < 0
  · right
    rw [prgF_full hneg]
    unfold obI at hneg ⊢
    by_cases g : fop l < l.length
    · rw [if_pos g] at hneg
      dsimp only at hneg
      omega
    · rw [if_neg g] at hneg ⊢
      by_cases g3 : ob c.wear l l.length < 0
      · rw [if_pos g3]
        refine ⟨rfl, fun k hk => ?_⟩
        have a0 := ob_none c.wear l l.length g3 k (by rw [h.len]; exact hk)
        have a1 : (l[k]!.st == 1) = false := by
          rcases fop_cases l with ⟨q, hq, _, _, e⟩ | ⟨e, _⟩
          · omega
          · exact e k (by rw [h.len]; exact hk)
        exact ⟨by simpa using a0, by simpa using a1⟩
      · rw [if_neg g3] at hneg
        dsimp only at hneg
        omega
  · left
    obtain ⟨k, l1, hkl⟩ : ∃ (k : Nat) (l1 : List Bk), obI c.wear l = ((k : Int), l1) := ⟨(obI c.wear l).1.toNat, (obI c.wear l).2, by
      apply Prod.ext
      · dsimp only; omega
      · rfl⟩
    obtain ⟨hk, hst, hv⟩ := h.open hkl
    obtain ⟨y, hy⟩ : ∃ y, l1[k]! = y := ⟨_, rfl⟩
    have hbs := hv.ble k hk
    have hcn := hv.cnt k hk
    rw [hy] at hbs hst hcn
    have hbs2 : 0 ≤ y.lv ∧ y.lv ≤ y.nx ∧ y.nx < 8 ∧ (nx (c.pg k) 8 : Int) = y.nx := by unfold Bs at hbs; omega
    obtain ⟨b0, b1, b2, b3⟩ := hbs2
    obtain ⟨p, hp⟩ : ∃ p : Nat, y.nx = p := ⟨y.nx.toNat, by omega⟩
    have hpr : prE c k p b.length = 0 := by
      have hre : reE c k = 0 := reE_yes h.up (by rw [h.nb]; exact hk)
      have hrp : rpE c k p = 0 := by
        unfold rpE
        rw [if_pos hre, if_neg (by rw [h.np]; omega)]
      unfold prE
      rw [if_pos hrp, if_pos (by rw [h.sz]; exact hb), Int.toNat_natCast, Int.toNat_natCast, (h.cln k hk).1, (h.cln k hk).2]
      rw [if_neg (by decide), if_neg (by rw [h.np]; rintro (q | q); exact absurd q (by decide); exact q (by omega))]
    have he : pgE c k p b.length = 0 := by
      unfold pgE
      rw [if_pos hpr, h.fl, fnd_nil]
      rfl
    have hpc : pgC c k p b = { stC c with pg := up2 c.pg k p (some b) } := by
      unfold pgC prC
      rw [if_pos hpr, h.fl, fnd_nil, Int.toNat_natCast, Int.toNat_natCast]
      rfl
    rw [prgF_ok hkl hy hp he, if_pos rfl, hpc, h.np]
    refine ⟨k, p, _, _, rfl, ?_⟩
    have hkl1 : k < l1.length := by rw [hv.len]; exact hk
    have w1 : wrap64 (y.nx + 1) = y.nx + 1 := wrap_small ⟨by omega, by omega⟩
    have w2 : wrap64 (y.lv + 1) = y.lv + 1 := wrap_small ⟨by omega, by omega⟩
    refine ⟨by rw [List.length_set]; exact hv.len, h.nb, h.np, h.sz, h.up, h.fl, h.cln, fun j hj => ?_, fun j hj => ?_, fun x hx => ?_, h.wr, h.gap⟩
    · show Bs (up2 c.pg k p (some b) j) _
      rw [set_getB _ _ _ _ (show j < l1.length by rw [hv.len]; exact hj)]
      unfold up2
      by_cases e : k = j
      · subst e
        rw [if_pos rfl, up1_at]
        have hn := nx_put (c.pg k) b p 8 (by omega) (by omega)
        unfold fillB
        rw [w1, w2]
        unfold Bs
        rw [hn]
        dsimp only
        split
        · omega
        · omega
      · rw [if_neg e, up1_ne _ _ (fun q => e q.symm)]
        exact hv.ble j hj
    · rw [set_getB _ _ _ _ (show j < l1.length by rw [hv.len]; exact hj), List.count_append, List.count_singleton]
      by_cases e : k = j
      · subst e
        rw [if_pos rfl]
        unfold fillB
        rw [w2]
        dsimp only
        rw [if_pos (by simp), hcn]
        omega
      · rw [if_neg e, if_neg (by simp; omega), hv.cnt j hj]
        omega
    · rcases List.mem_append.1 hx with hx | hx
      · exact h.hin x hx
      · rw [List.mem_singleton.1 hx]
        omega

/-- a block erased -/
theorem Iv.era {l : List Bk} {c : Ch} {held : List Int} {n : Nat} (h : Iv l c held n) (q : Nat) (hq : q < 16) (hst : l[q]!.st = 3 ∨ l[q]!.st = 0 ∨ (l[q]!.st = 1 ∧ l[q]!.nx = 0)) (hw : ∀ j, j < 16 → c.wear q ≤ c.wear j + 3) (hn : n ≤ 1000) :
    ∃ (l' : List Bk) (c' : Ch), eraT q l c = (0, l', c') ∧ Iv l' c' held (n + 1) := by
  have hb := h.ble q hq
  have hcn := h.cnt q hq
  have hlv : l[q]!.lv = 0 := by unfold Bs at hb; omega
  have hnd : ndE c.up l q = 0 := by
    unfold ndE
    rw [if_pos h.up, Int.toNat_natCast, if_neg (by rw [h.len]; omega)]
  have hre : reE c q = 0 := reE_yes h.up (by rw [h.nb]; exact hq)
  have her : erE c q = 0 := by
    unfold erE
    rw [if_pos hre, Int.toNat_natCast, (h.cln q hq).1, if_neg (by decide)]
  have he : egE c q = 0 := by
    unfold egE
    rw [if_pos her, h.fl, fnd_nil]
    rfl
  have hec : egC c q = erC (stC c) q := by
    unfold egC erD
    rw [if_pos her, h.fl, fnd_nil, Int.toNat_natCast]
    rfl
  have hT : eraT q l c = (0, l.set q ⟨0, 0, 0, 0⟩, erC (stC c) q) := by
    unfold eraT
    rw [if_pos hnd, Int.toNat_natCast, if_neg (by omega), if_pos he, hec]
  have w1 : wrap64 (c.wear q + 1) = c.wear q + 1 := by have := h.wr q hq; exact wrap_small ⟨by omega, by omega⟩
  have hwr : ∀ j, (erC (stC c) q).wear j = if j = q then c.wear q + 1 else c.wear j := fun j => by
    show up1 c.wear q (wrap64 (c.wear q + 1)) j = _
    by_cases e : j = q
    · rw [if_pos e, e, up1_at, w1]
    · rw [if_neg e, up1_ne _ _ e]
  refine ⟨_, _, hT, ?_⟩
  refine ⟨by rw [List.length_set]; exact h.len, h.nb, h.np, h.sz, h.up, h.fl, fun j hj => ?_, fun j hj => ?_, fun j hj => ?_, h.hin, fun j hj => ?_, fun j k hj hk => ?_⟩
  · refine ⟨(h.cln j hj).1, ?_⟩
    show up1 c.broken q false j = false
    by_cases e : j = q
    · rw [e, up1_at]
    · rw [up1_ne _ _ e]
      exact (h.cln j hj).2
  · rw [set_getB _ _ _ _ (show j < l.length by rw [h.len]; exact hj)]
    show Bs (up1 c.pg q (fun _ => none) j) _
    by_cases e : q = j
    · subst e
      rw [if_pos rfl, up1_at]
      exact .inl ⟨rfl, rfl, rfl, nx_wiped 8⟩
    · rw [if_neg e, up1_ne _ _ (fun x => e x.symm)]
      exact h.ble j hj
  · rw [set_getB _ _ _ _ (show j < l.length by rw [h.len]; exact hj)]
    by_cases e : q = j
    · subst e
      rw [if_pos rfl]
      dsimp only
      omega
    · rw [if_neg e]
      exact h.cnt j hj
  · rw [hwr]
    have := h.wr j hj
    split
    · rename_i e; subst e; omega
    · omega
  · rw [hwr, hwr]
    have a1 := h.gap j k hj hk
    have a2 := hw j hj
    have a3 := h.gap q k hq hk
    split <;> split <;> omega
end Go.Proofs.Ytnnpdlebgfjihaa
