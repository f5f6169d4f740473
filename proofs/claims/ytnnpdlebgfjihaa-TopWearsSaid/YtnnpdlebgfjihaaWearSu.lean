/-
  A page dropped, and a page kept: the row of the pages that are held. Nothing of one statement alone stands here.
-/
import Derived.Test.YtnnpdlebgfjihaaWearSt
namespace Go.Proofs.Ytnnpdlebgfjihaa
open Go.RowKit Crcm Gcm Go.ChangeShapes

/-- the row without the page of that number: the last one is laid in its place -/
def cutH (held : List Int) (q : Nat) : List Int := (held.set q (held.getD (held.length - 1) 0)).take (held.length - 1)
theorem cutH_eq (held : List Int) (q : Nat) (hq : q < held.length) : held.set q (held.getD (held.length - 1) 0) = cutH held q ++ [held.getD (held.length - 1) 0] := by
  have hl : held.length - 1 < (held.set q (held.getD (held.length - 1) 0)).length := by rw [List.length_set]; omega
  have h1 : held.set q (held.getD (held.length - 1) 0) = (held.set q (held.getD (held.length - 1) 0)).take (held.length - 1 + 1) := by
    rw [List.take_of_length_le (by rw [List.length_set]; omega)]
  unfold cutH
  rw [List.take_succ_eq_append_getElem hl] at h1
  have h2 : (held.set q (held.getD (held.length - 1) 0))[held.length - 1] = held.getD (held.length - 1) 0 := by
    rw [List.getElem_set]
    split
    · rfl
    · have hgd : held.getD (held.length - 1) 0 = held[held.length - 1] := by rw [List.getD_eq_getElem?_getD, List.getElem?_eq_getElem (by omega)]; rfl
      exact hgd.symm
  rw [h2] at h1
  exact h1
theorem cutH_len (held : List Int) (q : Nat) : (cutH held q).length = held.length - 1 := by
  unfold cutH
  rw [List.length_take, List.length_set]
  omega
theorem cutH_count (held : List Int) (q : Nat) (hq : q < held.length) (x : Int) : (cutH held q).count x = if x = held.getD q 0 then held.count x - 1 else held.count x := by
  have h1 := congrArg (List.count x) (cutH_eq held q hq)
  have hg : held.getD q 0 = held[q] := by rw [List.getD_eq_getElem?_getD, List.getElem?_eq_getElem hq]; rfl
  rw [List.count_append, List.count_singleton, List.count_set hq] at h1
  rw [hg]
  have hpos : held[q] = x → 0 < held.count x := fun e => by rw [← e]; exact List.count_pos_iff.2 (List.getElem_mem hq)
  by_cases e : x = held[q]
  · rw [if_pos e]
    have := hpos e.symm
    rw [if_pos (show (held[q] == x) = true by rw [beq_iff_eq]; exact e.symm)] at h1
    omega
  · rw [if_neg e]
    rw [if_neg (show ¬ (held[q] == x) = true by rw [beq_iff_eq]; exact fun q => e q.symm)] at h1
    omega

/-- a page dropped, and the row shortened -/
theorem Ws.dropped {w0 W W1 : World} {M g cap : Nat} {o : Own} {X : Nat → Prop} {l l' : List Bk} {c : Ch} {held : List Int} {hg vc n q : Nat} (h : Ws w0 W M g cap o X l c held (.slice (some ⟨hg, 0, none⟩) held.length vc) n) (hq : q < held.length)
    (hm : MgAt W1 M ⟨o.p, g, cap, l', 1, 0, false⟩) (hk : Kp (fun b => b = g) W W1) (hi : Iv l' c (cutH held q) n) :
    W1.ownsRow w0.heap.size 3 1 (.slice (some ⟨hg, 0, none⟩) held.length vc) held.length (held.map (Value.int .i64)) ∧
    Ws w0 (W1.setCell ⟨hg, q, none⟩ (.int .i64 (held.getD (held.length - 1) 0))) M g cap o X l' c (cutH held q) (.slice (some ⟨hg, 0, none⟩) (held.length - 1) vc) n := by
  obtain ⟨x1, x2, x3, x4⟩ := h.hv hg rfl
  have hown := own_kp h.own hk (fun r hr f => by
    injection hr with hr
    subst hr
    exact x4 f)
  refine ⟨hown, ?_⟩
  have hc1 : ChAt W1 X o c := h.ch.kp hk (fun b hb => by rw [hb]; exact h.xg) (fun b hb e => h.fg (by rw [← e, ← h.iv.nb]; exact hb))
  have hK := Kp.one W1 ⟨hg, q, none⟩ (.int .i64 (held.getD (held.length - 1) 0))
  have hst := (hown.stored q (.int .i64 (held.getD (held.length - 1) 0))).1
  obtain ⟨n1, hn1⟩ : ∃ n1, held.length = n1 + 1 := ⟨held.length - 1, by omega⟩
  refine ⟨hm.kp hK (fun e => x3 e.symm) (fun e => x4 e.symm), hc1.kp hK (fun b hb => by rw [hb]; exact x1) (fun b hb e => x2 (by
      have e2 : b = hg := e
      rw [← e2, ← h.iv.nb]; exact hb)), hi, h.xg, h.xlo, h.fm, h.fg, ?_, fun r hr => ?_, ?_⟩
  · rw [cutH_len, hn1, Nat.add_sub_cancel]
    rw [← List.map_set, cutH_eq held q hq, List.map_append, hn1] at hst
    exact ownsRow_pop (by rw [List.length_map, cutH_len, hn1]; omega) hst
  · injection hr with hr
    subst hr
    exact ⟨x1, x2, x3, x4⟩
  · refine (h.bel.trans (hk.below (fun b hb => ?_) h.bel.size)).setCell (p := ⟨hg, q, none⟩) (h.xlo hg x1) _
    rw [hb]
    exact h.xlo g h.xg

/-- a page kept -/
theorem Ws.push {w0 W W' : World} {M g cap : Nat} {o : Own} {X : Nat → Prop} {l : List Bk} {c : Ch} {held : List Int} {v v' : Value} {n x : Nat} {tmp : Obj} (hmg : MgAt W M ⟨o.p, g, cap, l, 1, 0, false⟩) (hch : ChAt W X o c) (hxg : X g) (hxlo : ∀ b, X b → w0.heap.size ≤ b) (hfm : ¬ o.F 16 M) (hfg : ¬ o.F 16 g)
    (hbel : Below w0.heap.size w0 W) (hhv : ∀ r, v.ownBlock = some r → X r ∧ ¬ o.F 16 r ∧ r ≠ M ∧ r ≠ g) (hi : Iv l c (held ++ [(x : Int)]) n)
    (hown : W'.ownsRow w0.heap.size 3 1 v' (held.length + 1) ((held ++ [(x : Int)]).map (Value.int .i64))) (hgr : (W.alloc tmp).grownBy W' v.ownBlock) (hloc : v'.ownBlock = v.ownBlock ∨ v'.ownBlock = some (W.alloc tmp).heap.size) :
    ∃ X', Ws w0 W' M g cap o X' l c (held ++ [(x : Int)]) v' n := by
  have hal : Below W.heap.size W (W.alloc tmp) := (Below.refl _ _).alloc (Nat.le_refl _) _
  have hK : Kp (fun b => v.ownBlock = some b) (W.alloc tmp) W' := ⟨hgr.os, hgr.tape, hgr.output, hgr.size, fun k hk hf => hgr.block k hk (fun e => hf e.symm)⟩
  have hm2 := hmg.below hal
  have hc2 := hch.below hal
  have hm3 : MgAt W' M ⟨o.p, g, cap, l, 1, 0, false⟩ := hm2.kp hK (fun e => (hhv M e).2.2.1 rfl) (fun e => (hhv g e).2.2.2 rfl)
  have hc3 : ChAt W' X o c := hc2.kp hK (fun b hb => (hhv b hb).1) (fun b hb e => (hhv b e).2.1 (by rw [← hi.nb]; exact hb))
  have hb3 : Below w0.heap.size w0 W' := (hbel.trans (hal.mono hbel.size)).trans (hK.below (fun b hb => hxlo b (hhv b hb).1) (Nat.le_trans hbel.size hal.size))
  have hlen : (held ++ [(x : Int)]).length = held.length + 1 := by simp
  rcases hloc with e | e
  · refine ⟨X, hm3, hc3, hi, hxg, hxlo, hfm, hfg, by rw [hlen]; exact hown, fun r hr => hhv r (by rw [← e]; exact hr), hb3⟩
  · have hr := hown.lt _ e
    have hMl := hm2.blk.lt
    have hgl : g < (W.alloc tmp).heap.size := hm2.own.lt
    refine ⟨fun b => X b ∨ b = (W.alloc tmp).heap.size, hm3, ?_, hi, .inl hxg, fun b hb => ?_, hfm, hfg, by rw [hlen]; exact hown, fun r hr2 => ?_, hb3⟩
    · -- the new block lay nowhere before
      have hw := hc2.widen (w' := (W.alloc tmp).alloc tmp) (X' := fun b => X b ∨ b = (W.alloc tmp).heap.size) ((Below.refl _ _).alloc (Nat.le_refl _) _) (fun b hb => by
        rcases hb with hb | rfl
        · exact .inl hb
        · exact .inr (Nat.le_refl _)) (fun b hb => by
        rw [World.size_alloc]
        rcases hb with hb | rfl
        · have := hc2.old b hb; omega
        · omega) (fun b hb => .inl hb)
      have hK2 : Kp (fun b => v.ownBlock = some b ∨ b = (W.alloc tmp).heap.size) ((W.alloc tmp).alloc tmp) W' := by
        refine ⟨hgr.os, hgr.tape, hgr.output, ?_, fun k hk hf => ?_⟩
        · rw [World.size_alloc]; exact hr.2
        · have hk2 : k < (W.alloc tmp).heap.size := by
            have h1 : k < (W.alloc tmp).heap.size + 1 := by rw [← World.size_alloc (W.alloc tmp) tmp]; exact hk
            have h2 : k ≠ (W.alloc tmp).heap.size := fun q => hf (.inr q)
            omega
          exact (hgr.block k hk2 (fun e => hf (.inl e.symm))).trans (Below.heap_alloc _ _ _ hk2).symm
      refine hw.kp hK2 (fun b hb => ?_) (fun b hb f => ?_)
      · rcases hb with hb | hb
        · exact .inl (hhv b hb).1
        · exact .inr hb
      · rcases f with f | f
        · exact (hhv b f).2.1 (by rw [← hi.nb]; exact hb)
        · have := hc2.old b (hc2.inX b hb)
          omega
    · rcases hb with hb | rfl
      · exact hxlo b hb
      · exact hr.1
    · rw [e] at hr2
      injection hr2 with hr2
      subst hr2
      refine ⟨.inr rfl, fun f => ?_, fun f => ?_, fun f => ?_⟩
      · have := hc2.old _ (hc2.inX _ (by rw [hi.nb]; exact f)); omega
      · omega
      · omega
theorem Ws.mono {w0 W : World} {M g cap : Nat} {o : Own} {X : Nat → Prop} {l : List Bk} {c : Ch} {held : List Int} {v : Value} {n m : Nat} (h : Ws w0 W M g cap o X l c held v n) (hm : n ≤ m) : Ws w0 W M g cap o X l c held v m :=
  ⟨h.mg, h.ch, h.iv.mono hm, h.xg, h.xlo, h.fm, h.fg, h.own, h.hv, h.bel⟩
theorem Ws.own_call {w0 W W' : World} {M g cap : Nat} {o : Own} {X : Nat → Prop} {l : List Bk} {c : Ch} {held : List Int} {v : Value} {n : Nat} (h : Ws w0 W M g cap o X l c held v n) (hk : Kp (Fm o 16 g) W W') : W'.ownsRow w0.heap.size 3 1 v held.length (held.map (Value.int .i64)) ∧ Below w0.heap.size w0 W' := by
  refine ⟨own_kp h.own hk (fun r hr f => ?_), h.bel.trans (hk.below (fun b hb => ?_) h.bel.size)⟩
  · obtain ⟨_, h2, _, h4⟩ := h.hv r hr
    rcases f with f | f
    · exact h2 f
    · exact h4 f
  · rcases hb with hb | rfl
    · exact h.xlo b (h.ch.inX b (by rw [h.iv.nb]; exact hb))
    · exact h.xlo _ h.xg
theorem Rw.one (W : World) (x : Int) (hx : U8 x) : Rw (W.alloc (.cells #[.int .u8 x] 5)) (some ⟨W.heap.size, 0, none⟩) [x] :=
  ⟨fun y hy => by rw [List.mem_singleton.1 hy]; exact hx, by unfold maxLen; simp, .inr ⟨W.heap.size, 0, rfl, fun i hi => by
    obtain rfl : i = 0 := by simpa using hi
    exact (Blk.new W 5 #[.int .u8 x]).cell 0⟩⟩
/-- the gap between a chip's erase counts -/
theorem Iv.gpL {l : List Bk} {c : Ch} {held : List Int} {n : Nat} (h : Iv l c held n) : (gpL c.wear c.nb).2 - (gpL c.wear c.nb).1 ≤ 4 := by
  rw [h.nb]
  obtain ⟨⟨a, ha, ea⟩, ⟨b, hb, eb⟩⟩ := gpL_in c.wear 16 (by omega)
  rw [ea, eb]
  have := h.gap a b ha hb
  omega
/-- how many of the pages held lie in the first so many blocks -/
def sumH (held : List Int) (k : Nat) : Nat := held.countP (fun x => decide (0 ≤ x ∧ x < (k : Int)))
theorem sumH_zero (held : List Int) : sumH held 0 = 0 := by
  unfold sumH
  rw [List.countP_eq_zero]
  intro x _
  simp only [decide_eq_true_eq]
  omega
theorem sumH_step (held : List Int) (k : Nat) : sumH held (k + 1) = sumH held k + held.count (k : Int) := by
  unfold sumH
  induction held with
  | nil => rfl
  | cons x t ih =>
    rw [List.countP_cons, List.countP_cons, List.count_cons, ih]
    by_cases e : x = (k : Int)
    · subst e
      rw [if_pos (by simp only [decide_eq_true_eq]; omega), if_neg (by simp only [decide_eq_true_eq]; omega), if_pos (by simp)]
      omega
    · rw [if_neg (show ¬ (x == (k : Int)) = true by simpa using e)]
      by_cases g : 0 ≤ x ∧ x < (k : Int)
      · rw [if_pos (by simp only [decide_eq_true_eq]; omega), if_pos (by simp only [decide_eq_true_eq]; omega)]
        omega
      · rw [if_neg (by simp only [decide_eq_true_eq]; omega), if_neg (by simp only [decide_eq_true_eq]; omega)]
        omega
theorem sumH_le (held : List Int) (k : Nat) : sumH held k ≤ held.length := List.countP_le_length
theorem sumH_all (held : List Int) (h : ∀ x ∈ held, 0 ≤ x ∧ x < 16) : sumH held 16 = held.length := by
  unfold sumH
  rw [List.countP_eq_length]
  intro x hx
  simp only [decide_eq_true_eq]
  exact h x hx
end Go.Proofs.Ytnnpdlebgfjihaa
