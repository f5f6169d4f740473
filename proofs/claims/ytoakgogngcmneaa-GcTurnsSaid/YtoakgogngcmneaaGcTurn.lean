/-
  A row of blocks turned round, in plain numbers; and a row that grows block by block. Nothing of the program's calls stands here.
-/
import Derived.Test.YtoakgogngcmneaaGcOwn
namespace Gcm
theorem mem_rev (l : List Bk) (b : Bk) : b ∈ l ↔ b ∈ l.reverse := by simp
theorem Rt_rev (l : List Bk) (p : Int) : Rt l.reverse p ↔ Rt l p := by
  unfold Rt
  simp
theorem least_rev (l : List Bk) : least l.reverse = least l := least_same _ _ fun b => (mem_rev l b).symm
theorem hit_rev (room : Bool) (l : List Bk) (s : Sr) : hit room l.reverse s = hit room l s := by
  unfold hit
  congr 1
  have h1 := best_all s.fit s.bt l
  have h2 := best_all s.fit s.bt l.reverse
  by_cases h : 0 ≤ best s.fit s.bt l l.length
  · rw [decide_eq_true h, decide_eq_true]
    refine Classical.byContradiction fun g => ?_
    have := h1.2 fun b hb => h2.1 (by omega) b ((mem_rev l b).1 hb)
    omega
  · rw [decide_eq_false h, decide_eq_false]
    have := h2.2 fun b hb => h1.1 (by omega) b ((mem_rev l b).2 hb)
    omega
theorem nxt_turn (l : List Bk) (p : Int) (room : Bool) :
    (nxt l p room = (0, -1) ∧ nxt l.reverse p room = (0, -1)) ∨
    ∃ (kd : Int) (q r : Nat), 1 ≤ kd ∧ q < l.length ∧ r < l.length ∧ nxt l p room = (kd, (q : Int)) ∧ nxt l.reverse p room = (kd, (r : Int)) ∧
      (kd ≠ 3 → l[q]!.st = l.reverse[r]!.st ∧ l[q]!.lv = l.reverse[r]!.lv ∧ l[q]!.wr = l.reverse[r]!.wr) := by
  by_cases hR : Rt l p
  · rw [nxt_look hR, nxt_look ((Rt_rev l p).2 hR), least_rev]
    rcases look_cases room l (srs p (least l)) with ⟨e, hn⟩ | ⟨i, hi, hn, hh, e⟩
    · left
      refine ⟨e, ?_⟩
      rcases look_cases room l.reverse (srs p (least l)) with ⟨e2, _⟩ | ⟨i, hi, _, hh, _⟩
      · exact e2
      · rw [hit_rev, hn _ (by rw [getElem!_pos (srs p (least l)) i hi]; exact List.getElem_mem hi)] at hh
        cases hh
    · right
      have hh2 : hit room l.reverse (srs p (least l))[i]! = true := by rw [hit_rev]; exact hh
      have e2 : look room l.reverse (srs p (least l)) = ((srs p (least l))[i]!.kind, best (srs p (least l))[i]!.fit (srs p (least l))[i]!.bt l.reverse l.reverse.length) := by
        rcases look_cases room l.reverse (srs p (least l)) with ⟨_, h⟩ | ⟨j, hj, h1, h2, h3⟩
        · have := h (srs p (least l))[i]! (by rw [getElem!_pos (srs p (least l)) i hi]; exact List.getElem_mem hi)
          rw [this] at hh2; cases hh2
        · rcases Nat.lt_trichotomy j i with g | g | g
          · have := hn j g
            rw [← hit_rev] at this
            rw [this] at h2; cases h2
          · subst g; exact h3
          · rw [h1 i g] at hh2; cases hh2
      rw [e, e2]
      have hi6 : i < 6 := hi
      have hb : 0 ≤ best (srs p (least l))[i]!.fit (srs p (least l))[i]!.bt l l.length := by
        unfold hit at hh
        simp only [Bool.and_eq_true, decide_eq_true_eq] at hh
        exact hh.2
      have hb2 : 0 ≤ best (srs p (least l))[i]!.fit (srs p (least l))[i]!.bt l.reverse l.reverse.length := by
        unfold hit at hh2
        simp only [Bool.and_eq_true, decide_eq_true_eq] at hh2
        exact hh2.2
      have f1 := best_fit _ _ l l.length hb
      have f2 := best_fit _ _ l.reverse l.reverse.length hb2
      have m1 := best_mem _ _ l hb
      have m2 := best_mem _ _ l.reverse hb2
      have l1 := best_lt (srs p (least l))[i]!.fit (srs p (least l))[i]!.bt l l.length
      have l2 := best_lt (srs p (least l))[i]!.fit (srs p (least l))[i]!.bt l.reverse l.reverse.length
      have o1 := fun irr tr => best_least _ _ l irr tr hb _ ((mem_rev l _).2 m2) f2
      have o2 := fun irr tr => best_least _ _ l.reverse irr tr hb2 _ ((mem_rev l _).1 m1) f1
      have x1 := hR.2 _ m1
      have x2 := hR.2 _ ((mem_rev l _).2 m2)
      have lr : l.reverse.length = l.length := List.length_reverse
      have hk : 1 ≤ (srs p (least l))[i]!.kind := by
        match i, hi6 with
        | 0, _ => exact (show (1 : Int) ≤ 1 by decide)
        | 1, _ => exact (show (1 : Int) ≤ 2 by decide)
        | 2, _ => exact (show (1 : Int) ≤ 3 by decide)
        | 3, _ => exact (show (1 : Int) ≤ 2 by decide)
        | 4, _ => exact (show (1 : Int) ≤ 4 by decide)
        | 5, _ => exact (show (1 : Int) ≤ 4 by decide)
        | i + 6, h => omega
      refine ⟨(srs p (least l))[i]!.kind, (best (srs p (least l))[i]!.fit (srs p (least l))[i]!.bt l l.length).toNat, (best (srs p (least l))[i]!.fit (srs p (least l))[i]!.bt l.reverse l.reverse.length).toNat, hk, by omega, by omega, by rw [Int.toNat_of_nonneg hb], by rw [Int.toNat_of_nonneg hb2], ?_⟩
      generalize l[(best (srs p (least l))[i]!.fit (srs p (least l))[i]!.bt l l.length).toNat]! = b at f1 o1 o2 x1
      generalize l.reverse[(best (srs p (least l))[i]!.fit (srs p (least l))[i]!.bt l.reverse l.reverse.length).toNat]! = c at f2 o1 o2 x2
      unfold Rb at x1 x2
      match i, hi6 with
      | 0, _ =>
        intro _
        have g1 : (stale b && may (least l) b) = true := f1
        have g2 : (stale c && may (least l) c) = true := f2
        have p1 : lw c b = false := o1 lw_irr lw_tr
        have p2 : lw b c = false := o2 lw_irr lw_tr
        simp [stale] at g1 g2
        simp [lw] at p1 p2
        omega
      | 1, _ =>
        intro _
        have g1 : (loose p b && may (least l) b) = true := f1
        have g2 : (loose p c && may (least l) c) = true := f2
        have p1 : ll c b = false := o1 ll_irr ll_tr
        have p2 : ll b c = false := o2 ll_irr ll_tr
        simp [loose] at g1 g2
        simp [ll] at p1 p2
        omega
      | 2, _ => exact fun h => absurd rfl h
      | 3, _ =>
        intro _
        have g1 : (full b && atLeast (least l) b) = true := f1
        have g2 : (full c && atLeast (least l) c) = true := f2
        have p1 : ll c b = false := o1 ll_irr ll_tr
        have p2 : ll b c = false := o2 ll_irr ll_tr
        simp [full] at g1 g2
        simp [ll] at p1 p2
        omega
      | 4, _ =>
        intro _
        have g1 : stale b = true := f1
        have g2 : stale c = true := f2
        have p1 : lw c b = false := o1 lw_irr lw_tr
        have p2 : lw b c = false := o2 lw_irr lw_tr
        simp [stale] at g1 g2
        simp [lw] at p1 p2
        omega
      | 5, _ =>
        intro _
        have g1 : loose p b = true := f1
        have g2 : loose p c = true := f2
        have p1 : ll c b = false := o1 ll_irr ll_tr
        have p2 : ll b c = false := o2 ll_irr ll_tr
        simp [loose] at g1 g2
        simp [ll] at p1 p2
        omega
      | i + 6, h => omega
  · left
    exact ⟨nxt_no hR, nxt_no fun h => hR ((Rt_rev l p).1 h)⟩

theorem flat_append (l m : List Bk) : flat (l ++ m) = flat l ++ flat m := by
  induction l with
  | nil => rfl
  | cons b r ih => simp [flat, ih]
theorem rev_take (l : List Bk) (k n : Nat) (hl : l.length = n) (hk : k < n) : l.reverse.take (k + 1) = l.reverse.take k ++ [l[n - 1 - k]!] := by
  subst hl
  rw [List.take_add_one, List.getElem?_eq_getElem (by rw [List.length_reverse]; exact hk), List.getElem_reverse, getElem!_pos l _ (by omega)]
  rfl
end Gcm
namespace Go.Proofs.Ytoakgogngcmneaa
open Go.RowKit Gcm Go.ChangeShapes

/-- append of one block that lies in memory onto a row of the call's own -/
theorem append_block {w : World} {ops : Array Oper} {rest : List Oper} {o : Oper} {a : Act} {Q : Exit → Act → World → Prop} (hgd : o.guard = none) (s x : Operand)
    (ho : o.op = .call { callee := .builtin .append, args := #[s, x], argTypes := #[39, 39] })
    (base : Nat) (v : Value) (k : Nat) (l : List Bk) (hs : a.eval s = v) (hown : w.ownsRow base 60 4 v k (flat l))
    (b c : Nat) (y : Bk) (hx : a.eval x = .slice (some ⟨b, 0, none⟩) 1 c) (hk : k ≤ 1000000) (hc : At w b 0 y) (hbase : base ≤ w.heap.size)
    (h : ∀ v' w', w'.ownsRow base 60 4 v' (k + 1) (flat (l ++ [y])) → Below base w w' → wpList Try.prog ops Q rest (a.put o.dst v') w') : wpList Try.prog ops Q (o :: rest) a w := by
  obtain ⟨i0, hi, hz0, hz1, hz2⟩ := infoG_parts
  refine wpList_append_own w hgd s x 39 ho base 60 i0 _ 4 32 Try.underlying39 hi hz0 hz1 hz2 rfl (by decide) v k _ hs hown ⟨b, 0, none⟩ 1 c (flat [y]) hx rfl ?_ (flat_one [y]) (by unfold maxLen; omega) (by omega) hbase ?_
  · intro j u hu
    rw [Addr.add_lit]
    refine flat_cells w b [y] 0 (fun j hj => ?_) j u hu
    have : j = 0 := by simpa using hj
    subst this
    exact hc
  · intro v' w' h1 h2 _
    rw [← flat_append] at h1
    exact h v' w' h1 ((Below.refl _ w).grown h2 hbase (fun g hg => (hown.lt g hg).1))

/-- a row of the call's own as a row -/
theorem own_rg {w : World} {base k : Nat} {v : Value} {l : List Bk} (h : w.ownsRow base 60 4 v k (flat l)) (hz : ∀ x ∈ l, Bw x) :
    ∃ a c, v = .slice a k c ∧ Rg w a l ∧ l.length = k := by
  obtain ⟨hlen, h⟩ := h
  rw [flat_length] at hlen
  rcases h with ⟨rfl, rfl⟩ | ⟨g, cap, cur, rfl, hg, hheap, hn, hm, hsz, ht⟩
  · exact ⟨none, 0, rfl, ⟨hz, by rw [show l.length = 0 by omega]; exact Nat.zero_le _, .inl (List.eq_nil_of_length_eq_zero (by omega))⟩, by omega⟩
  · refine ⟨_, cap, rfl, ⟨hz, by omega, .inr ⟨g, 0, rfl, fun j hj => ?_⟩⟩, by omega⟩
    obtain ⟨f0, f1, f2, f3⟩ := flat_at l j hj
    have hB : Blk w g 60 cur := hheap
    have e : ∀ i, i < k * 4 → cur[i]? = (flat l)[i]? := fun i hi => by rw [← ht, List.getElem?_take, if_pos hi, Array.getElem?_toList]
    rw [Nat.zero_add]
    exact ⟨(hB.cell _).trans ((e _ (by omega)).trans f0), (hB.cell _).trans ((e _ (by omega)).trans f1), (hB.cell _).trans ((e _ (by omega)).trans f2), (hB.cell _).trans ((e _ (by omega)).trans f3)⟩
end Go.Proofs.Ytoakgogngcmneaa
