/-
  A block erased, or broken off in it; a block marked, a chip started and put out, a page read. Nothing of one statement alone stands here.
-/
import Derived.Test.YtbfifppdcmimaaaGreatKD
namespace Go.Proofs.YtbfifppdcmimaaaGreat
open Go.RowKit Crcm Go.ChangeShapes

theorem ChAt.samePg {w : World} {X : Nat → Prop} {o : Own} {c : Ch} (h : ChAt w X o c) (f : Nat → Nat → Option (List Int)) (hf : ∀ k i, k < c.nb → i < c.np → f k i = c.pg k i) : ChAt w X o { c with pg := f } := by
  refine ⟨h.good, h.old, h.inX, h.neb, h.nep, h.inj, h.chip, h.blocks, fun k hk => ?_⟩
  obtain ⟨cs, h1, h2, h3⟩ := h.pages k hk
  refine ⟨cs, h1, h2, fun i hi => ?_⟩
  obtain ⟨v, g1, g2⟩ := h3 i hi
  refine ⟨v, g1, ?_⟩
  show PgAt w X v (c.sz + 32) (f k i)
  rw [hf k i hk hi]
  exact g2
theorem ChAt.wipe {X : Nat → Prop} {o : Own} (k : Nat) : ∀ (n i : Nat) (w : World) (c : Ch), ChAt w X o c → k < c.nb → i + n ≤ c.np →
    ChAt (w.setCells (o.pb k) i (List.replicate n (.slice none 0 0))) X o { c with pg := up1 c.pg k (fun j => if i ≤ j ∧ j < i + n then none else c.pg k j) } ∧ Kp (o.F c.nb) w (w.setCells (o.pb k) i (List.replicate n (.slice none 0 0))) := by
  intro n
  induction n with
  | zero =>
    intro i w c h hk hn
    refine ⟨h.samePg _ fun k' j _ _ => ?_, Kp.refl _ _⟩
    by_cases e : k' = k
    · subst e; rw [up1_at, if_neg (by omega)]
    · rw [up1_ne _ _ e]
  | succ n ih =>
    intro i w c h hk hn
    rw [List.replicate_succ, World.setCells]
    have h1 := h.putPg k i hk (by omega) (.slice none 0 0) none rfl
    obtain ⟨g1, g2⟩ := ih (i + 1) _ _ h1 hk (by show i + 1 + n ≤ c.np; omega)
    refine ⟨g1.samePg _ fun k' j _ _ => ?_, ((Kp.refl _ _).setCell (.inl (.inr (.inr ⟨k, hk, rfl⟩))) _).trans g2⟩
    show up1 c.pg k _ k' j = up1 (up2 c.pg k i none) k _ k' j
    by_cases e : k' = k
    · subst e
      rw [up1_at, up1_at]
      show _ = if i + 1 ≤ j ∧ j < i + 1 + n then none else up2 c.pg k' i none k' j
      unfold up2
      rw [up1_at]
      by_cases ej : j = i
      · subst ej; rw [up1_at, if_pos (by omega)]; split <;> rfl
      · rw [up1_ne _ _ ej]
        by_cases g : i ≤ j ∧ j < i + (n + 1)
        · rw [if_pos g, if_pos (by omega)]
        · rw [if_neg g, if_neg (by omega)]
    · rw [up1_ne _ _ e, up1_ne _ _ e]
      unfold up2
      rw [up1_ne _ _ e]

/-- a chip behind a block's whole erasing -/
def erC (c : Ch) (k : Nat) : Ch := { c with pg := up1 c.pg k (fun _ => none), broken := up1 c.broken k false, wear := up1 c.wear k (wrap64 (c.wear k + 1)) }

set_option maxRecDepth 100000 in
set_option maxHeartbeats 1000000 in
theorem berase_any {w : World} {X : Nat → Prop} {o : Own} {c : Ch} (h : ChAt w X o c) (k : Nat) (hk : k < c.nb) :
    Calls Tryz.prog 79 #[o.q k] w fun e w' => e = .returned (.tuple #[]) ∧ ChAt w' X o (erC c k) ∧ Kp (o.F c.nb) w w' := by
  obtain ⟨b0, -⟩ := h.bcell hk
  have hnp : 0 < c.np := by have := h.good; unfold Gd at this; omega
  have hclr := fun ty => Lib.run_clear_slice (P := Tryz.prog) w 97 23 ty (.slice none 0 0) Tryz.underlying97 (fun w => Tryz.zeroValue23 w) rfl rfl (o.pb k) 0 c.np c.np hnp (fun j hj => by
    obtain ⟨v, g1, -⟩ := h.pcell hk hj
    rw [Nat.zero_add, g1]; rfl) (fun j hj => h.pfroz hk _)
  obtain ⟨hw, hkp⟩ := ChAt.wipe k c.np 0 w c h hk (by omega)
  have h1 := hw.samePg (up1 c.pg k (fun _ => none)) fun k' j _ hj => by
    show up1 c.pg k _ k' j = up1 c.pg k _ k' j
    by_cases e : k' = k
    · subst e
      rw [up1_at, up1_at]
      have hj : j < c.np := hj
      rw [if_pos (by omega)]
    · rw [up1_ne _ _ e, up1_ne _ _ e]
  generalize w.setCells (o.pb k) 0 (List.replicate c.np (.slice none 0 0)) = W at hclr h1 hkp
  have H1 := Lib.hid h1
  have K1 := Lib.hid hkp
  obtain ⟨-, c1, -, c3⟩ := h1.bcell (k := k) hk
  have f1 := h1.bfroz (k * 4 + 1)
  have f3 := h1.bfroz (k * 4 + 3)
  have c3 : W.cell? ⟨o.bb, k * 4 + 3, none⟩ = some (.int .i64 (c.wear k)) := c3
  clear h hw h1 hkp
  go_enter Tryz.func79, Tryz.ntmps79
  go_wp2
  go_end0
  refine ⟨rfl, ?_, (K1.out.setCell (p := ⟨o.bb, k * 4 + 1, none⟩) (.inl (.inr (.inl rfl))) _).setCell (p := ⟨o.bb, k * 4 + 3, none⟩) (.inl (.inr (.inl rfl))) _⟩
  exact (H1.out.putBroken k hk false).putWear k hk (wrap64 (c.wear k + 1))

/-- a page of a block that was broken off -/
def brk (wd : Nat) (l : List Int) (f : Nat → Option (List Int)) (n i : Nat) : Option (List Int) :=
  if i < n then (if l.getD i 0 = 0 then f i else if l.getD i 0 = 1 then none else some (List.replicate wd (l.getD i 0))) else f i
/-- a chip while a block breaks off -/
def boS (c : Ch) (k : Nat) (l : List Int) (j : Nat) : Ch :=
  { c with pg := up1 c.pg k (brk (c.sz + 32) l (c.pg k) j), broken := up1 c.broken k true, wear := up1 c.wear k (wrap64 (c.wear k + 1)) }
/-- a chip behind a block's breaking off -/
def boC (c : Ch) (k : Nat) (l : List Int) : Ch := boS c k l (Nat.min c.np l.length)
theorem brk_next (wd : Nat) (l : List Int) (f : Nat → Option (List Int)) (j i : Nat) : brk wd l f (j + 1) i = if i = j then (if l.getD j 0 = 0 then f j else if l.getD j 0 = 1 then none else some (List.replicate wd (l.getD j 0))) else brk wd l f j i := by
  unfold brk
  by_cases e : i = j
  · subst e
    rw [if_pos (by omega), if_pos rfl]
  · rw [if_neg e]
    by_cases g : i < j
    · rw [if_pos g, if_pos (by omega)]
    · rw [if_neg g, if_neg (by omega)]
theorem boS_keep {w : World} {X : Nat → Prop} {o : Own} {c : Ch} {k j : Nat} {l : List Int} (h : ChAt w X o (boS c k l j)) (hx : l.getD j 0 = 0) : ChAt w X o (boS c k l (j + 1)) := by
  refine h.samePg (boS c k l (j + 1)).pg fun k' i _ _ => ?_
  show up1 c.pg k _ k' i = up1 c.pg k _ k' i
  by_cases e : k' = k
  · subst e
    rw [up1_at, up1_at, brk_next]
    by_cases ei : i = j
    · subst ei
      rw [if_pos rfl, if_pos hx]
      unfold brk
      rw [if_neg (by omega)]
    · rw [if_neg ei]
  · rw [up1_ne _ _ e, up1_ne _ _ e]
theorem boS_put {w : World} {X : Nat → Prop} {o : Own} {c : Ch} {k j : Nat} {l : List Int} {p : Option (List Int)} (h : ChAt w X o { boS c k l j with pg := up2 (boS c k l j).pg k j p }) (hp : p = if l.getD j 0 = 0 then c.pg k j else if l.getD j 0 = 1 then none else some (List.replicate (c.sz + 32) (l.getD j 0))) : ChAt w X o (boS c k l (j + 1)) := by
  refine h.samePg (boS c k l (j + 1)).pg fun k' i _ _ => ?_
  show up1 c.pg k _ k' i = up2 (up1 c.pg k (brk (c.sz + 32) l (c.pg k) j)) k j p k' i
  unfold up2
  by_cases e : k' = k
  · subst e
    rw [up1_at, up1_at, brk_next, up1_at]
    by_cases ei : i = j
    · subst ei
      rw [up1_at, if_pos rfl, hp]
    · rw [if_neg ei, up1_ne _ _ ei]
  · rw [up1_ne _ _ e, up1_ne _ _ e, up1_ne _ _ e]

set_option maxRecDepth 100000 in
set_option maxHeartbeats 2000000 in
theorem breakOff_any {w : World} {X : Nat → Prop} {o : Own} {c : Ch} (h : ChAt w X o c) (k : Nat) (hk : k < c.nb) (a : Option Addr) (m cap wd : Nat) (l : List Int) (hr : RwX w X a l) (hl : l.length = m) (hw : c.sz + 32 = wd) :
    Calls Tryz.prog 78 #[o.q k, .int .i64 wd, .slice a m cap] w fun e w' => e = .returned (.tuple #[]) ∧ ChAt w' X o (boC c k l) ∧ Kp (o.F c.nb) w w' := by
  obtain ⟨b0, b1, b2, b3⟩ := h.bcell hk
  have f1 := h.bfroz (k * 4 + 1)
  have f3 := h.bfroz (k * 4 + 3)
  have m9 : m ≤ 9223372036854775807 := by have := hr.1.2.1; unfold maxLen at this; omega
  have hFX := Lib.hid h.inX
  have HXl := Lib.hid h.old
  have H1 : Hid (ChAt ((w.setCell ⟨o.bb, k * 4 + 1, none⟩ (.bool true)).setCell ⟨o.bb, k * 4 + 3, none⟩ (.int .i64 (wrap64 (c.wear k + 1)))) X o (boS c k l 0)) := Lib.hid (((h.putBroken k hk true).putWear k hk (wrap64 (c.wear k + 1))).samePg (boS c k l 0).pg fun k' i _ _ => by
    show up1 c.pg k _ k' i = c.pg k' i
    by_cases e : k' = k
    · subst e; rw [up1_at]; unfold brk; rw [if_neg (by omega)]
    · rw [up1_ne _ _ e])
  have K1 : Hid (Kp (o.F c.nb) w ((w.setCell ⟨o.bb, k * 4 + 1, none⟩ (.bool true)).setCell ⟨o.bb, k * 4 + 3, none⟩ (.int .i64 (wrap64 (c.wear k + 1))))) := Lib.hid (((Kp.refl _ _).setCell (p := ⟨o.bb, k * 4 + 1, none⟩) (.inl (.inr (.inl rfl))) _).setCell (p := ⟨o.bb, k * 4 + 3, none⟩) (.inl (.inr (.inl rfl))) _)
  have HR := Lib.hid hr
  have HL := Lib.hid hl
  have np1 : c.np ≤ 40 := by have := h.good; unfold Gd at this; omega
  have wd1 : wd ≤ 1000 := by have := h.good; unfold Gd at this; omega
  have HW := Lib.hid hw
  have HF := Lib.hid (fun (x : Int) (w : World) (hx : U8 x) => filled_any wd x w (by omega) hx)
  clear h hr hl hw
  rcases Nat.lt_or_ge m c.np with hmin | hmin
  · have hq : Hid (m = Nat.min c.np l.length) := Lib.hid (by rw [HL.out]; exact (Nat.min_eq_right (Nat.le_of_lt hmin)).symm)
    have hm1 : (m : Int) < (c.np : Int) := by omega
    have qn : m ≤ c.np := by omega
    have qm : m ≤ m := by omega
    go_enter Tryz.func78, Tryz.ntmps78
    go_wp2_with fail
    generalize ((w.setCell ⟨o.bb, k * 4 + 1, none⟩ (.bool true)).setCell ⟨o.bb, k * 4 + 3, none⟩ (.int .i64 (wrap64 (c.wear k + 1)))) = W1 at H1 K1 ⊢
    clear b0 b1 b2 b3 f1 f3
    go_loopw [6, 25] (fun _ i wr => ∃ j : Nat, j ≤ m ∧ i = .int .i64 j ∧ Hid (ChAt wr X o (boS c k l j)) ∧ Hid (Kp (o.F c.nb) w wr)) (fun _ i _ => m - (intOf i).toNat)
    case atStart => exact ⟨0, by omega, rfl, H1, K1⟩
    case round =>
      obtain ⟨j, hj, rfl, hC, hK⟩ := hrel
      by_cases hlt : j < m
      · have hjl : j < l.length := by have := HL.out; omega
        have hjn : j < c.np := by omega
        have HRr := Lib.hid (HR.out.kp hK.out hFX.out)
        rcases HRr.out.1.2.2 with h0 | ⟨ab, ao, rfl, hcs⟩
        · rw [h0] at hjl; simp at hjl
        have q0 := hcs j hjl
        have hu : U8 (l.getD j 0) := HRr.out.1.1 _ (by rw [List.getD_eq_getElem?_getD, List.getElem?_eq_getElem hjl]; exact List.getElem_mem hjl)
        have HU := Lib.hid hu
        obtain ⟨x0, -⟩ := hC.out.bcell (k := k) hk
        have x0 : wr.cell? ⟨o.bb, k * 4, none⟩ = some (.slice (some ⟨o.pb k, 0, none⟩) c.np c.np) := x0
        obtain ⟨v0, y0, -⟩ := hC.out.pcell (k := k) (i := j) hk hjn
        have z0 := hC.out.pfroz (k := k) hk j
        have HKeep := Lib.hid (fun hx => boS_keep hC.out hx)
        have HPut := Lib.hid (fun hx : l.getD j 0 = 1 => boS_put (hC.out.putPg k j hk hjn (.slice none 0 0) none rfl) (by rw [hx]; rfl))
        have HPb : Hid (∀ x, l.getD j 0 = x → ¬ x = 0 → ¬ x = 1 → ∀ w3, Below wr.heap.size wr w3 → RB w3 wr.heap.size (List.replicate wd x) → ChAt (w3.setCell ⟨o.pb k, j, none⟩ (.slice (some ⟨wr.heap.size, 0, none⟩) wd wd)) X o (boS c k l (j + 1))) := Lib.hid fun x hx g0 g1 w3 hb hrb => by
          refine boS_put ((hC.out.below hb).putPg k j hk hjn _ (some (List.replicate wd x)) ⟨wr.heap.size, 0, wd, by rw [show (boS c k l j).sz + 32 = wd from HW.out], by rw [show (boS c k l j).sz + 32 = wd from HW.out]; exact Nat.le_refl _, by rw [show (boS c k l j).sz + 32 = wd from HW.out, List.length_replicate], hrb.rw (fun y hy => by rw [(List.mem_replicate.1 hy).2, ← hx]; exact HU.out) (by rw [List.length_replicate]; unfold maxLen; omega), fun b off s e _ gx => ?_⟩) (by rw [hx, if_neg g0, if_neg g1, HW.out])
          injection e with e
          injection e with e1 e2 e3
          subst e1
          have := hC.out.old _ gx
          omega
        clear hcs
        generalize hx : l.getD j 0 = x at q0 HU HKeep HPut
        have HX := Lib.hid hx
        have jq : (j : Int) < (m : Int) := by omega
        have jm : (j : Int) < (m : Int) := by omega
        have jn : (j : Int) < (c.np : Int) := by omega
        have j0 : (0 : Int) ≤ (j : Int) := by omega
        clear hx hu
        by_cases e0 : x = 0
        · have t0 : (x == 0) = true := beq_iff_eq.2 e0
          have HK' := Lib.hid (HKeep.out e0)
          clear e0 HKeep HPut HPb
          go_wp2
          go_roundw
          case rel => exact ⟨j + 1, by omega, by go_num, HK', hK⟩
          case measure => simp [intOf]; omega
        have t0 : (x == 0) = false := beq_eq_false_iff_ne.2 e0
        by_cases e1 : x = 1
        · have t1 : (x == 1) = true := beq_iff_eq.2 e1
          have HK' := Lib.hid (HPut.out e1)
          have HKk := Lib.hid (hK.out.setCell (p := ⟨o.pb k, j, none⟩) (.inl (.inr (.inr ⟨k, hk, rfl⟩))) (.slice none 0 0))
          clear e0 e1 HKeep HPut HPb
          go_wp2
          go_roundw
          case rel => exact ⟨j + 1, by omega, by go_num, HK', HKk⟩
          case measure => simp [intOf]; omega
        have t1 : (x == 1) = false := beq_eq_false_iff_ne.2 e1
        have HP' := Lib.hid (HPb.out x HX.out e0 e1)
        have SS := Lib.hid (fun w' (h : Below wr.heap.size wr w') => (⟨(h.cell (block_lt_of_cell x0)).trans x0, (h.cell (block_lt_of_cell q0)).trans q0, (h.cell (block_lt_of_cell y0)).trans y0, (h.frozen (block_lt_of_cell y0)).trans z0, h⟩ :
          w'.cell? ⟨o.bb, k * 4, none⟩ = some (.slice (some ⟨o.pb k, 0, none⟩) c.np c.np) ∧ w'.cell? ⟨ab, ao + j, none⟩ = some (.int .u8 x) ∧ w'.cell? ⟨o.pb k, j, none⟩ = some v0 ∧ w'.frozen? ⟨o.pb k, j, none⟩ = false ∧ Below wr.heap.size wr w'))
        clear e0 e1 HKeep HPut HPb
        go_wp2_with fail
        go_region_with (first
          | (go_at_call 48; refine (HF.out x _ HU.out).mono ?_; rintro r w3 ⟨rfl, ⟨cs, hb1, hf1⟩, hb3⟩; obtain ⟨x0', q0', y0', z0', hb3'⟩ := SS.out w3 (below_undraw hb3)))
        all_goals
          have HCf := Lib.hid (HP'.out w3 hb3' (show RB w3 wr.heap.size (List.replicate wd x) from Fil.rb hb1 hf1))
          have HKf := Lib.hid ((hK.out.trans (Kp.of_below hb3')).setCell (p := ⟨o.pb k, j, none⟩) (.inl (.inr (.inr ⟨k, hk, rfl⟩))) (.slice (some ⟨wr.heap.size, 0, none⟩) wd wd))
          clear hb1 hf1 x0' q0' y0' z0'
          go_wp2
          go_roundw
          case rel => exact ⟨j + 1, by omega, by go_num, HCf, HKf⟩
          case measure => simp [intOf]; omega
      · have hjq : j = m := by omega
        have HCC : Hid (ChAt wr X o (boC c k l)) := Lib.hid (by unfold boC; rw [← hq.out, ← hjq]; exact hC.out)
        subst hjq
        go_wp2
        go_end0
        exact ⟨rfl, HCC.out, hK.out⟩
  · have hq : Hid (c.np = Nat.min c.np l.length) := Lib.hid (by rw [HL.out]; exact (Nat.min_eq_left hmin).symm)
    have hm1 : (c.np : Int) ≤ (m : Int) := by omega
    have qn : c.np ≤ c.np := by omega
    have qm : c.np ≤ m := by omega
    go_enter Tryz.func78, Tryz.ntmps78
    go_wp2_with fail
    generalize ((w.setCell ⟨o.bb, k * 4 + 1, none⟩ (.bool true)).setCell ⟨o.bb, k * 4 + 3, none⟩ (.int .i64 (wrap64 (c.wear k + 1)))) = W1 at H1 K1 ⊢
    clear b0 b1 b2 b3 f1 f3
    go_loopw [6, 25] (fun _ i wr => ∃ j : Nat, j ≤ c.np ∧ i = .int .i64 j ∧ Hid (ChAt wr X o (boS c k l j)) ∧ Hid (Kp (o.F c.nb) w wr)) (fun _ i _ => c.np - (intOf i).toNat)
    case atStart => exact ⟨0, by omega, rfl, H1, K1⟩
    case round =>
      obtain ⟨j, hj, rfl, hC, hK⟩ := hrel
      by_cases hlt : j < c.np
      · have hjl : j < l.length := by have := HL.out; omega
        have hjn : j < c.np := by omega
        have HRr := Lib.hid (HR.out.kp hK.out hFX.out)
        rcases HRr.out.1.2.2 with h0 | ⟨ab, ao, rfl, hcs⟩
        · rw [h0] at hjl; simp at hjl
        have q0 := hcs j hjl
        have hu : U8 (l.getD j 0) := HRr.out.1.1 _ (by rw [List.getD_eq_getElem?_getD, List.getElem?_eq_getElem hjl]; exact List.getElem_mem hjl)
        have HU := Lib.hid hu
        obtain ⟨x0, -⟩ := hC.out.bcell (k := k) hk
        have x0 : wr.cell? ⟨o.bb, k * 4, none⟩ = some (.slice (some ⟨o.pb k, 0, none⟩) c.np c.np) := x0
        obtain ⟨v0, y0, -⟩ := hC.out.pcell (k := k) (i := j) hk hjn
        have z0 := hC.out.pfroz (k := k) hk j
        have HKeep := Lib.hid (fun hx => boS_keep hC.out hx)
        have HPut := Lib.hid (fun hx : l.getD j 0 = 1 => boS_put (hC.out.putPg k j hk hjn (.slice none 0 0) none rfl) (by rw [hx]; rfl))
        have HPb : Hid (∀ x, l.getD j 0 = x → ¬ x = 0 → ¬ x = 1 → ∀ w3, Below wr.heap.size wr w3 → RB w3 wr.heap.size (List.replicate wd x) → ChAt (w3.setCell ⟨o.pb k, j, none⟩ (.slice (some ⟨wr.heap.size, 0, none⟩) wd wd)) X o (boS c k l (j + 1))) := Lib.hid fun x hx g0 g1 w3 hb hrb => by
          refine boS_put ((hC.out.below hb).putPg k j hk hjn _ (some (List.replicate wd x)) ⟨wr.heap.size, 0, wd, by rw [show (boS c k l j).sz + 32 = wd from HW.out], by rw [show (boS c k l j).sz + 32 = wd from HW.out]; exact Nat.le_refl _, by rw [show (boS c k l j).sz + 32 = wd from HW.out, List.length_replicate], hrb.rw (fun y hy => by rw [(List.mem_replicate.1 hy).2, ← hx]; exact HU.out) (by rw [List.length_replicate]; unfold maxLen; omega), fun b off s e _ gx => ?_⟩) (by rw [hx, if_neg g0, if_neg g1, HW.out])
          injection e with e
          injection e with e1 e2 e3
          subst e1
          have := hC.out.old _ gx
          omega
        clear hcs
        generalize hx : l.getD j 0 = x at q0 HU HKeep HPut
        have HX := Lib.hid hx
        have jq : (j : Int) < (c.np : Int) := by omega
        have jm : (j : Int) < (m : Int) := by omega
        have jn : (j : Int) < (c.np : Int) := by omega
        have j0 : (0 : Int) ≤ (j : Int) := by omega
        clear hx hu
        by_cases e0 : x = 0
        · have t0 : (x == 0) = true := beq_iff_eq.2 e0
          have HK' := Lib.hid (HKeep.out e0)
          clear e0 HKeep HPut HPb
          go_wp2
          go_roundw
          case rel => exact ⟨j + 1, by omega, by go_num, HK', hK⟩
          case measure => simp [intOf]; omega
        have t0 : (x == 0) = false := beq_eq_false_iff_ne.2 e0
        by_cases e1 : x = 1
        · have t1 : (x == 1) = true := beq_iff_eq.2 e1
          have HK' := Lib.hid (HPut.out e1)
          have HKk := Lib.hid (hK.out.setCell (p := ⟨o.pb k, j, none⟩) (.inl (.inr (.inr ⟨k, hk, rfl⟩))) (.slice none 0 0))
          clear e0 e1 HKeep HPut HPb
          go_wp2
          go_roundw
          case rel => exact ⟨j + 1, by omega, by go_num, HK', HKk⟩
          case measure => simp [intOf]; omega
        have t1 : (x == 1) = false := beq_eq_false_iff_ne.2 e1
        have HP' := Lib.hid (HPb.out x HX.out e0 e1)
        have SS := Lib.hid (fun w' (h : Below wr.heap.size wr w') => (⟨(h.cell (block_lt_of_cell x0)).trans x0, (h.cell (block_lt_of_cell q0)).trans q0, (h.cell (block_lt_of_cell y0)).trans y0, (h.frozen (block_lt_of_cell y0)).trans z0, h⟩ :
          w'.cell? ⟨o.bb, k * 4, none⟩ = some (.slice (some ⟨o.pb k, 0, none⟩) c.np c.np) ∧ w'.cell? ⟨ab, ao + j, none⟩ = some (.int .u8 x) ∧ w'.cell? ⟨o.pb k, j, none⟩ = some v0 ∧ w'.frozen? ⟨o.pb k, j, none⟩ = false ∧ Below wr.heap.size wr w'))
        clear e0 e1 HKeep HPut HPb
        go_wp2_with fail
        go_region_with (first
          | (go_at_call 48; refine (HF.out x _ HU.out).mono ?_; rintro r w3 ⟨rfl, ⟨cs, hb1, hf1⟩, hb3⟩; obtain ⟨x0', q0', y0', z0', hb3'⟩ := SS.out w3 (below_undraw hb3)))
        all_goals
          have HCf := Lib.hid (HP'.out w3 hb3' (show RB w3 wr.heap.size (List.replicate wd x) from Fil.rb hb1 hf1))
          have HKf := Lib.hid ((hK.out.trans (Kp.of_below hb3')).setCell (p := ⟨o.pb k, j, none⟩) (.inl (.inr (.inr ⟨k, hk, rfl⟩))) (.slice (some ⟨wr.heap.size, 0, none⟩) wd wd))
          clear hb1 hf1 x0' q0' y0' z0'
          go_wp2
          go_roundw
          case rel => exact ⟨j + 1, by omega, by go_num, HCf, HKf⟩
          case measure => simp [intOf]; omega
      · have hjq : j = c.np := by omega
        have HCC : Hid (ChAt wr X o (boC c k l)) := Lib.hid (by unfold boC; rw [← hq.out, ← hjq]; exact hC.out)
        obtain rfl := hjq
        go_wp2
        go_end0
        exact ⟨rfl, HCC.out, hK.out⟩
end Go.Proofs.YtbfifppdcmimaaaGreat

/-
  What is done with a chip: Erase, Mark, Start, Lose, Read. Nothing of one statement alone stands here.
-/
namespace Go.Proofs.YtbfifppdcmimaaaGreat
open Go.RowKit Crcm Go.ChangeShapes

set_option maxRecDepth 100000 in
theorem lose_any {w : World} {X : Nat → Prop} {o : Own} {c : Ch} (h : ChAt w X o c) :
    Calls Tryz.prog 9 #[o.p] w fun e w' => e = .returned (.tuple #[]) ∧ ChAt w' X o { c with up := false } ∧ Kp (o.F c.nb) w w' := by
  obtain ⟨-, -, -, -, c4, -⟩ := h.cell
  have f4 := h.froz 4
  have H := Lib.hid h
  clear h
  go_enter Tryz.func9, Tryz.ntmps9
  go_wp2
  go_end0
  exact ⟨rfl, H.out.putUp false, (Kp.refl _ _).setCell (.inl (.inl rfl)) _⟩
set_option maxRecDepth 100000 in
theorem mark_no {w : World} {X : Nat → Prop} {o : Own} {c : Ch} (h : ChAt w X o c) (k : Int) (hk : reE c k ≠ 0) :
    Calls Tryz.prog 58 #[o.p, .int .i64 k] w fun e w' => e = .returned (.int .i64 (reE c k)) ∧ w = w' := by
  have HR := Lib.hid (reach_no h k hk)
  generalize reE c k = x at HR hk ⊢
  have t0 : (x != 0) = true := bne_iff_ne.2 hk
  clear h hk
  go_enter Tryz.func58, Tryz.ntmps58
  go_wp2_with fail
  refine HR.out.mono ?_
  rintro r w' ⟨rfl, rfl⟩
  go_wp2
  go_ret
  exact ⟨rfl, rfl⟩
set_option maxRecDepth 100000 in
theorem mark_yes {w : World} {X : Nat → Prop} {o : Own} {c : Ch} (h : ChAt w X o c) (k : Nat) (hk : reE c k = 0) :
    Calls Tryz.prog 58 #[o.p, .int .i64 k] w fun e w' => e = .returned (.int .i64 0) ∧ ChAt w' X o { c with bad := up1 c.bad k true } ∧ Kp (o.F c.nb) w w' := by
  have HR := Lib.hid (reach_yes h k hk)
  have hkn : k < c.nb := by have := (reE_zero hk).2.2; omega
  obtain ⟨-, -, b2, -⟩ := h.bcell hkn
  have f2 := h.bfroz (k * 4 + 2)
  have HP := Lib.hid (h.putBad k hkn true)
  clear h hk
  go_enter Tryz.func58, Tryz.ntmps58
  go_wp2_with fail
  refine HR.out.mono ?_
  rintro r w' ⟨rfl, rfl⟩
  go_wp2
  go_ret
  exact ⟨rfl, HP.out, (Kp.refl _ _).setCell (p := ⟨o.bb, k * 4 + 2, none⟩) (.inl (.inr (.inl rfl))) _⟩

theorem Kp.undraw {F : Nat → Prop} {w w' : World} (h : Kp F w.drew w') : Kp F w w' := ⟨h.os, h.tape, h.output, h.size, h.block⟩
/-- what is answered ahead of an erasing (0: it goes on) -/
def erE (c : Ch) (k : Int) : Int := if reE c k = 0 then (if c.bad k.toNat then 13 else 0) else reE c k
set_option maxRecDepth 100000 in
theorem erase_no {w : World} {X : Nat → Prop} {o : Own} {c : Ch} (h : ChAt w X o c) (k : Int) (hk : erE c k ≠ 0) :
    Calls Tryz.prog 57 #[o.p, .int .i64 k] w fun e w' => e = .returned (.int .i64 (erE c k)) ∧ w = w' := by
  by_cases h0 : reE c k = 0
  · obtain ⟨s1, s2, s3⟩ := reE_zero h0
    obtain ⟨k, rfl⟩ : ∃ n : Nat, k = n := ⟨k.toNat, by omega⟩
    have HR := Lib.hid (reach_yes h k h0)
    obtain ⟨-, -, b2, -⟩ := h.bcell (k := k) (by omega)
    have hb : c.bad k = true := by
      cases hb : c.bad k with
      | true => rfl
      | false => exact absurd (by unfold erE; rw [if_pos h0, Int.toNat_natCast, if_neg (by rw [hb]; simp)]) hk
    have e : erE c k = 13 := by unfold erE; rw [if_pos h0, Int.toNat_natCast, if_pos hb]
    rw [e]
    rw [hb] at b2
    clear h hk h0 s1 s2 s3 hb e
    go_enter Tryz.func57, Tryz.ntmps57
    go_wp2_with fail
    refine HR.out.mono ?_
    rintro r w' ⟨rfl, rfl⟩
    go_wp2
    go_ret
    exact ⟨rfl, rfl⟩
  · have e : erE c k = reE c k := by unfold erE; rw [if_neg h0]
    rw [e]
    have HR := Lib.hid (reach_no h k h0)
    generalize reE c k = x at HR h0 ⊢
    have t0 : (x != 0) = true := bne_iff_ne.2 h0
    clear h hk e h0
    go_enter Tryz.func57, Tryz.ntmps57
    go_wp2_with fail
    refine HR.out.mono ?_
    rintro r w' ⟨rfl, rfl⟩
    go_wp2
    go_ret
    exact ⟨rfl, rfl⟩
/-- a chip behind an erasing that went on -/
def erD (c : Ch) (k : Nat) : Ch :=
  endC (fnd c.fl c.since).kind
    (if (fnd c.fl c.since).kind = 1 then stC c else if (fnd c.fl c.since).kind = 2 ∨ (fnd c.fl c.since).kind = 3 then boC (stC c) k (fnd c.fl c.since).data else erC (stC c) k)

set_option maxRecDepth 100000 in
set_option maxHeartbeats 4000000 in
theorem erase_yes {w : World} {X : Nat → Prop} {o : Own} {c : Ch} (h : ChAt w X o c) (k : Nat) (he : erE c k = 0) :
    Calls Tryz.prog 57 #[o.p, .int .i64 k] w fun e w' => e = .returned (.int .i64 (endE (fnd c.fl c.since).kind)) ∧ ChAt w' X o (erD c k) ∧ Kp (o.F c.nb) w w' := by
  have h0 : reE c k = 0 := by
    unfold erE at he
    split at he
    · assumption
    · exact absurd he (by assumption)
  have hbad : c.bad k = false := by
    unfold erE at he
    rw [if_pos h0, Int.toNat_natCast] at he
    cases hb : c.bad k with
    | true => rw [hb, if_pos rfl] at he; cases he
    | false => rfl
  have hk : k < c.nb := by have := (reE_zero h0).2.2; omega
  have HR := Lib.hid (reach_yes h k h0)
  obtain ⟨-, -, b2, -⟩ := h.bcell hk
  rw [hbad] at b2
  have HS := Lib.hid (stroke_any h)
  have H := Lib.hid h
  obtain ⟨f, hf⟩ : ∃ f, fnd c.fl c.since = f := ⟨_, rfl⟩
  have ep : erD c k = endC f.kind (if f.kind = 1 then stC c else if f.kind = 2 ∨ f.kind = 3 then boC (stC c) k f.data else erC (stC c) k) := by unfold erD; rw [hf]
  generalize erD c k = C at ep ⊢
  have HC1 : Hid (f.kind = 1 → endC f.kind (stC c) = C) := Lib.hid fun g => by rw [ep, if_pos g]
  have HC2 : Hid (¬ f.kind = 1 → f.kind = 2 ∨ f.kind = 3 → endC f.kind (boC (stC c) k f.data) = C) := Lib.hid fun g g2 => by rw [ep, if_neg g, if_pos g2]
  have HC3 : Hid (¬ f.kind = 1 → ¬ (f.kind = 2 ∨ f.kind = 3) → endC f.kind (erC (stC c) k) = C) := Lib.hid fun g g2 => by rw [ep, if_neg g, if_neg g2]
  rw [hf]
  unfold StP at HS
  rw [hf] at HS
  clear h h0 he hbad ep hf
  go_enter Tryz.func57, Tryz.ntmps57
  go_wp2_with fail
  refine HR.out.mono ?_
  rintro r w' ⟨rfl, rfl⟩
  go_wp2_with fail
  refine HS.out.mono ?_
  rintro r w1 ⟨⟨da, dc, rfl, hda, hdc⟩, hch, hkp⟩
  have HXl := Lib.hid H.out.old
  have HFX := Lib.hid H.out.inX
  have C2 := Lib.hid (hch.below ((Below.refl _ _).alloc (Nat.le_refl _) (.cells #[.int .i64 f.at', .int .i64 f.kind, .slice da f.data.length dc] 139)))
  have K2 := Lib.hid (hkp.alloc (.cells #[.int .i64 f.at', .int .i64 f.kind, .slice da f.data.length dc] 139))
  have B2 := Lib.hid (Blk.new w1 139 #[.int .i64 f.at', .int .i64 f.kind, .slice da f.data.length dc])
  have D2 := Lib.hid (hda.kp (F := fun _ => False) (Kp.of_below ((Below.refl _ _).alloc (Nat.le_refl _) (.cells #[.int .i64 f.at', .int .i64 f.kind, .slice da f.data.length dc] 139))) (fun _ g => g.elim))
  have hws : w.heap.size ≤ w1.heap.size := hkp.size
  have HBC : Hid (∀ b, o.F c.nb b → b ≠ w1.heap.size) := Lib.hid (fun b hb => by
    have h1 := HXl.out _ (HFX.out b hb)
    omega)
  clear hch hkp hda HS HR H
  by_cases e1 : f.kind = 1
  · have HC := Lib.hid (HC1.out e1)
    have t4 : (f.kind == 1) = true := beq_iff_eq.2 e1
    have HE := Lib.hid (end_any C2.out f.kind)
    clear HC1 HC2 HC3 e1
    go_wp2_with fail
    refine HE.out.mono ?_
    rintro r w3 ⟨rfl, hc3, hk3⟩
    rw [HC.out] at hc3
    have HC3 := Lib.hid hc3
    have HK3 := Lib.hid (K2.out.trans hk3)
    clear hc3 hk3
    go_wp2
    go_ret
    exact ⟨rfl, HC3.out, HK3.out⟩
  have t4 : (f.kind == 1) = false := beq_eq_false_iff_ne.2 e1
  by_cases e2 : f.kind = 2 ∨ f.kind = 3
  · have HC := Lib.hid (HC2.out e1 e2)
    clear HC1 HC2 HC3
    rcases e2 with e2 | e2
    · have t5 : (f.kind == 2) = true := beq_iff_eq.2 e2
      clear e1 e2
      go_wp2_with fail
      generalize (w1.alloc (.cells #[.int .i64 f.at', .int .i64 f.kind, .slice da f.data.length dc] 139)) = W at C2 K2 B2 D2 ⊢
      generalize w1.heap.size = fb at B2 hws HBC ⊢
      have c1 : W.cell? ⟨fb, 1, none⟩ = some (.int .i64 f.kind) := B2.out.cell 1
      have c2 : W.cell? ⟨fb, 2, none⟩ = some (.slice da f.data.length dc) := B2.out.cell 2
      obtain ⟨wd, hwd⟩ : ∃ wd, c.sz + 32 = wd := ⟨_, rfl⟩
      have HWD := Lib.hid hwd
      clear hwd
      have HWd : Hid (∀ w', Below W.heap.size W w' → Calls Tryz.prog 49 #[o.p] w' fun e w'' => e = .returned (.int .i64 (wd : Int)) ∧ w' = w'') := Lib.hid (fun w' h => by
        have := width_any (C2.out.below h)
        rw [show (stC c).sz = c.sz from rfl, HWD.out] at this
        exact this)
      have HBo := Lib.hid (fun w' (h : Below W.heap.size W w') => breakOff_any (C2.out.below h) k hk da f.data.length dc wd f.data (D2.out.kp (F := fun _ => False) (Kp.of_below h) (fun _ g => g.elim)) rfl HWD.out)
      go_region_with (first
        | (go_at_call 49; refine (HWd.out _ ?_).mono ?_; (first | exact (Below.refl _ W).drew | assumption); rintro r w' ⟨rfl, rfl⟩)
        | (go_at_call 78; refine (HBo.out _ ?_).mono ?_; exact (Below.refl _ W).drew; rintro r w3 ⟨rfl, hc3, hk3⟩))
      all_goals
        have q3 : w3.cell? ⟨fb, 1, none⟩ = some (.int .i64 f.kind) := (hk3.cell (p := ⟨fb, 1, none⟩) (block_lt_of_cell c1) (fun g => HBC.out _ g rfl)).trans c1
        have Q1 := Lib.hid (end_any hc3 f.kind)
        have Q2 := Lib.hid (K2.out.trans (Kp.undraw hk3))
        clear hc3 hk3
        go_wp2_with fail
        refine Q1.out.mono ?_
        rintro r w5 ⟨rfl, hc5, hk5⟩
        have HC5 := Lib.hid hc5
        have HK5 := Lib.hid (Q2.out.trans hk5)
        clear hc5 hk5
        go_wp2
        go_ret
        exact ⟨rfl, by rw [← HC.out]; exact HC5.out, HK5.out⟩
    · have t5 : (f.kind == 2) = false := beq_eq_false_iff_ne.2 (by omega)
      have t6 : (f.kind == 3) = true := beq_iff_eq.2 e2
      clear e1 e2
      go_wp2_with fail
      generalize (w1.alloc (.cells #[.int .i64 f.at', .int .i64 f.kind, .slice da f.data.length dc] 139)) = W at C2 K2 B2 D2 ⊢
      generalize w1.heap.size = fb at B2 hws HBC ⊢
      have c1 : W.cell? ⟨fb, 1, none⟩ = some (.int .i64 f.kind) := B2.out.cell 1
      have c2 : W.cell? ⟨fb, 2, none⟩ = some (.slice da f.data.length dc) := B2.out.cell 2
      obtain ⟨wd, hwd⟩ : ∃ wd, c.sz + 32 = wd := ⟨_, rfl⟩
      have HWD := Lib.hid hwd
      clear hwd
      have HWd : Hid (∀ w', Below W.heap.size W w' → Calls Tryz.prog 49 #[o.p] w' fun e w'' => e = .returned (.int .i64 (wd : Int)) ∧ w' = w'') := Lib.hid (fun w' h => by
        have := width_any (C2.out.below h)
        rw [show (stC c).sz = c.sz from rfl, HWD.out] at this
        exact this)
      have HBo := Lib.hid (fun w' (h : Below W.heap.size W w') => breakOff_any (C2.out.below h) k hk da f.data.length dc wd f.data (D2.out.kp (F := fun _ => False) (Kp.of_below h) (fun _ g => g.elim)) rfl HWD.out)
      go_region_with (first
        | (go_at_call 49; refine (HWd.out _ ?_).mono ?_; (first | exact (Below.refl _ W).drew | assumption); rintro r w' ⟨rfl, rfl⟩)
        | (go_at_call 78; refine (HBo.out _ ?_).mono ?_; exact (Below.refl _ W).drew; rintro r w3 ⟨rfl, hc3, hk3⟩))
      all_goals
        have q3 : w3.cell? ⟨fb, 1, none⟩ = some (.int .i64 f.kind) := (hk3.cell (p := ⟨fb, 1, none⟩) (block_lt_of_cell c1) (fun g => HBC.out _ g rfl)).trans c1
        have Q1 := Lib.hid (end_any hc3 f.kind)
        have Q2 := Lib.hid (K2.out.trans (Kp.undraw hk3))
        clear hc3 hk3
        go_wp2_with fail
        refine Q1.out.mono ?_
        rintro r w5 ⟨rfl, hc5, hk5⟩
        have HC5 := Lib.hid hc5
        have HK5 := Lib.hid (Q2.out.trans hk5)
        clear hc5 hk5
        go_wp2
        go_ret
        exact ⟨rfl, by rw [← HC.out]; exact HC5.out, HK5.out⟩
  · have HC := Lib.hid (HC3.out e1 e2)
    have t5 : (f.kind == 2) = false := beq_eq_false_iff_ne.2 (by omega)
    have t6 : (f.kind == 3) = false := beq_eq_false_iff_ne.2 (by omega)
    have HEr := Lib.hid (berase_any C2.out k hk)
    clear HC1 HC2 HC3 e1 e2
    go_wp2_with fail
    refine HEr.out.mono ?_
    rintro r w3 ⟨rfl, hc3, hk3⟩
    have q3 : w3.cell? ⟨w1.heap.size, 1, none⟩ = some (.int .i64 f.kind) := (hk3.cell (p := ⟨w1.heap.size, 1, none⟩) (by simp) (fun g => HBC.out _ g rfl)).trans (B2.out.cell 1)
    have Q1 := Lib.hid (end_any hc3 f.kind)
    have Q2 := Lib.hid (K2.out.trans hk3)
    clear hc3 hk3
    go_wp2_with fail
    refine Q1.out.mono ?_
    rintro r w5 ⟨rfl, hc5, hk5⟩
    have HC5 := Lib.hid hc5
    have HK5 := Lib.hid (Q2.out.trans hk5)
    clear hc5 hk5
    go_wp2
    go_ret
    exact ⟨rfl, by rw [← HC.out]; exact HC5.out, HK5.out⟩

/-- what is read of a page -/
def rdL (c : Ch) (k page : Nat) : List Int := (c.pg k page).getD (List.replicate (c.sz + 32) 255)
set_option maxRecDepth 100000 in
theorem read_no {w : World} {X : Nat → Prop} {o : Own} {c : Ch} (h : ChAt w X o c) (k page : Int) (hk : rpE c k page ≠ 0) :
    Calls Tryz.prog 20 #[o.p, .int .i64 k, .int .i64 page] w fun e w' => e = .returned (.tuple #[.slice none 0 0, .int .i64 (rpE c k page)]) ∧ w = w' := by
  have HR := Lib.hid (reachPage_no h k page hk)
  generalize rpE c k page = x at HR hk ⊢
  have t0 : (x != 0) = true := bne_iff_ne.2 hk
  clear h hk
  go_enter Tryz.func20, Tryz.ntmps20
  go_wp2_with fail
  refine HR.out.mono ?_
  rintro r w' ⟨rfl, rfl⟩
  go_wp2
  go_ret2
  exact ⟨rfl, rfl⟩
set_option maxRecDepth 100000 in
set_option maxHeartbeats 1000000 in
theorem read_yes {w : World} {X : Nat → Prop} {o : Own} {c : Ch} (h : ChAt w X o c) (k page : Nat) (hk : rpE c k page = 0) :
    Calls Tryz.prog 20 #[o.p, .int .i64 k, .int .i64 page] w fun e w' => (∃ g cc, e = .returned (.tuple #[.slice (some ⟨g, 0, none⟩) (c.sz + 32 : Nat) cc, .int .i64 0]) ∧ c.sz + 32 ≤ cc ∧ w.heap.size ≤ g ∧ Rw w' (some ⟨g, 0, none⟩) (rdL c k page) ∧ (rdL c k page).length = c.sz + 32) ∧
      ChAt w' X o { c with reads := wrap64 (c.reads + 1) } ∧ Kp (o.F c.nb) w w' := by
  obtain ⟨h0, h1, h2⟩ := rpE_zero hk
  have hkn : k < c.nb := by have := (reE_zero h0).2.2; omega
  have hpn : page < c.np := by omega
  obtain ⟨-, -, -, -, -, -, -, c8⟩ := h.cell
  have f8 := h.froz 8
  have HR := Lib.hid (reachPage_yes h k page hk)
  have hP := h.putReads (wrap64 (c.reads + 1))
  have hgz : c.sz ≤ 512 := by have := h.good; unfold Gd at this; omega
  have hX := Lib.hid h.old
  have K1 : Hid (Kp (o.F c.nb) w (w.setCell ⟨o.bc, 8, none⟩ (.int .i64 (wrap64 (c.reads + 1))))) := Lib.hid ((Kp.refl _ _).setCell (p := ⟨o.bc, 8, none⟩) (.inl (.inl rfl)) _)
  obtain ⟨x0, -⟩ := hP.bcell (k := k) hkn
  have x0 : (w.setCell ⟨o.bc, 8, none⟩ (.int .i64 (wrap64 (c.reads + 1)))).cell? ⟨o.bb, k * 4, none⟩ = some (.slice (some ⟨o.pb k, 0, none⟩) c.np c.np) := x0
  obtain ⟨v, y0, hv⟩ := hP.pcell (k := k) (i := page) hkn hpn
  have hv : PgAt _ X v (c.sz + 32) (c.pg k page) := hv
  have hsz : (w.setCell ⟨o.bc, 8, none⟩ (.int .i64 (wrap64 (c.reads + 1)))).heap.size = w.heap.size := by simp [World.setCell]
  have HP := Lib.hid hP
  have HWd : Hid (Calls Tryz.prog 49 #[o.p] (w.setCell ⟨o.bc, 8, none⟩ (.int .i64 (wrap64 (c.reads + 1)))) fun e w' => e = .returned (.int .i64 ((c.sz + 32 : Nat) : Int)) ∧ (w.setCell ⟨o.bc, 8, none⟩ (.int .i64 (wrap64 (c.reads + 1)))) = w') := Lib.hid (by have := width_any hP; exact this)
  have p0 : (0 : Int) ≤ (page : Int) := by omega
  have p1 : (page : Int) < (c.np : Int) := by omega
  have en := fun W a n c => Lib.run_eql_slice_nil (P := Tryz.prog) W 23 5 a n c 0 0 Tryz.underlying23
  have hrd : rdL c k page = (c.pg k page).getD (List.replicate (c.sz + 32) 255) := rfl
  have hwd0 : c.sz + 32 ≤ 1000 := by omega
  have hwd1 : 0 < c.sz + 32 := by omega
  generalize c.sz + 32 = wd at HWd hrd hv hwd0 hwd1 ⊢
  generalize rdL c k page = rl at hrd ⊢
  have HRd := Lib.hid hrd
  clear h hk h0 h1 h2 hP hrd hgz
  go_enter Tryz.func20, Tryz.ntmps20
  go_wp2_with fail
  refine HR.out.mono ?_
  rintro r w' ⟨rfl, rfl⟩
  cases hpg : c.pg k page with
  | none =>
    rw [hpg] at hv HRd
    have hv : v = .slice none 0 0 := hv
    subst hv
    have HRl : Hid (rl = List.replicate wd 255) := Lib.hid HRd.out
    have HF := Lib.hid (filled_any wd 255 (w.setCell ⟨o.bc, 8, none⟩ (.int .i64 (wrap64 (c.reads + 1)))) (by omega) (by unfold U8; omega))
    rw [hsz] at HF
    clear hpg HRd hsz
    go_wp2_with fail
    refine HWd.out.mono ?_
    rintro r w' ⟨rfl, rfl⟩
    go_wp2_with fail
    refine HF.out.mono ?_
    rintro r w3 ⟨rfl, ⟨cs, hb, hf⟩, hB⟩
    have HRB := Lib.hid (Fil.rb hb hf)
    have HC3 := Lib.hid (HP.out.below (show Below (w.setCell ⟨o.bc, 8, none⟩ (.int .i64 (wrap64 (c.reads + 1)))).heap.size _ w3 from ⟨hB.os, hB.tape, hB.output, hB.size, fun k hk => hB.block k (by simpa [World.setCell] using hk)⟩))
    have HK3 := Lib.hid (K1.out.trans (Kp.of_below (show Below (w.setCell ⟨o.bc, 8, none⟩ (.int .i64 (wrap64 (c.reads + 1)))).heap.size _ w3 from ⟨hB.os, hB.tape, hB.output, hB.size, fun k hk => hB.block k (by simpa [World.setCell] using hk)⟩)))
    clear hb hf hB
    go_wp2
    go_ret2
    refine ⟨⟨w.heap.size, wd, rfl, Nat.le_refl _, Nat.le_refl _, ?_, ?_⟩, HC3.out, HK3.out⟩
    · rw [HRl.out]
      exact HRB.out.rw (fun y hy => by rw [(List.mem_replicate.1 hy).2]; unfold U8; omega) (by rw [List.length_replicate]; unfold maxLen; omega)
    · rw [HRl.out, List.length_replicate]
  | some l =>
    rw [hpg] at hv HRd
    obtain ⟨b, off, cc, rfl, hcc, hll, hrw⟩ := hv
    have HRl : Hid (rl = l) := Lib.hid HRd.out
    have HLl := Lib.hid hll
    have HCl := Lib.hid (clone_any wd cc b off l (w.setCell ⟨o.bc, 8, none⟩ (.int .i64 (wrap64 (c.reads + 1)))) hrw.1 hll ⟨hwd1, by omega⟩)
    have HSz := Lib.hid hsz
    clear hpg HRd hll hrw hsz
    go_wp2_with fail
    refine HCl.out.mono ?_
    rintro r w3 ⟨⟨g, c2, rfl, hc2, hg, hrw2⟩, hB⟩
    have HC3 := Lib.hid (HP.out.below hB)
    have HK3 := Lib.hid (K1.out.trans (Kp.of_below hB))
    have HRw := Lib.hid hrw2
    clear hB hrw2
    go_wp2
    go_ret2
    refine ⟨⟨g, c2, rfl, hc2, by have := HSz.out; omega, ?_, ?_⟩, HC3.out, HK3.out⟩
    · rw [HRl.out]; exact HRw.out
    · rw [HRl.out]; exact HLl.out
end Go.Proofs.YtbfifppdcmimaaaGreat
