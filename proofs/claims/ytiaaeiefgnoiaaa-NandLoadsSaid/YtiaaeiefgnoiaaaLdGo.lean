/-
  Pages loaded: the program's call Load. Nothing of one statement alone stands here.
-/
import Derived.Test.YtiaaeiefgnoiaaaLdOwn
namespace Go.Proofs.Ytiaaeiefgnoiaaa
open Go.RowKit Crcm Go.ChangeShapes

/-- what the program's Load comes to -/
def GldP (w : World) (nb np sz : Nat) (ls : List (List Int)) (bs : List Bool) (ws : List Int) (e : Ending) (w' : World) : Prop :=
  ((LdOk nb np sz ls bs ws ∧ ∃ o : Own, e = .returned (.tuple #[o.p, .int .i64 0]) ∧ ChAt w' (o.F nb) o (ldC nb np sz ls bs ws) ∧ ∀ b, o.F nb b → w.heap.size ≤ b) ∨
    (¬ LdOk nb np sz ls bs ws ∧ e = .returned (.tuple #[.pointer none, .int .i64 1]))) ∧ Below w.heap.size w w'

theorem Rl.cut {w : World} {b off P np : Nat} {ls : List (List Int)} (h : Rl w (some ⟨b, off, none⟩) ls) (hP : P + np ≤ ls.length) : Rl w (some ⟨b, off + P, none⟩) ((ls.drop P).take np) := by
  rcases h with h | ⟨b', off', e, h⟩
  · left
    rw [h]; simp
  · injection e with e
    injection e with e1 e2 e3
    subst e1 e2
    refine .inr ⟨b, off + P, rfl, fun i hi => ?_⟩
    rw [List.length_take, List.length_drop] at hi
    have e : ((ls.drop P).take np)[i]! = ls[P + i]! := by
      rw [getElem!_pos _ _ (by rw [List.length_take, List.length_drop]; omega), getElem!_pos ls _ (by omega)]
      simp
    rw [e, Nat.add_assoc]
    exact h (P + i) (by omega)

set_option maxRecDepth 100000 in
set_option maxHeartbeats 4000000 in
theorem gload_any (nb np sz : Nat) (w : World) (hg : Gd nb np sz) (a1 : Option Addr) (n1 c1 : Nat) (ls : List (List Int)) (h1 : Rl w a1 ls) (l1 : ls.length = n1) (s1 : n1 ≤ 5000) (k1 : n1 ≤ c1) (hsm : ∀ l ∈ ls, l.length ≤ 100000) (a2 : Option Addr) (n2 c2 : Nat) (bs : List Bool) (h2 : Rbo w a2 bs) (l2 : bs.length = n2) (s2 : n2 ≤ 5000)
    (a3 : Option Addr) (n3 c3 : Nat) (ws : List Int) (h3 : Ri w a3 ws) (l3 : ws.length = n3) (s3 : n3 ≤ 5000) :
    Calls Try.prog 9 #[geoV nb np sz, .slice a1 n1 c1, .slice a2 n2 c2, .slice a3 n3 c3] w (GldP w nb np sz ls bs ws) := by
  obtain ⟨i1, hi1, hz1, hs1, hb1⟩ := info_parts Try.infoBk
  have HLo := Lib.hid (fun (W : World) (hb : Below w.heap.size w W) => gloadable_any nb np sz W hg a1 n1 c1 ls (h1.below hb) l1 s1 a2 n2 c2 bs l2 s2 a3 n3 c3 ws (h3.below hb) l3 s3)
  have g1 : nb < 129 := hg.2.1
  have g2 : np < 33 := hg.2.2.2.1
  have g3 : 3 < np := hg.2.2.1
  have hmk := fun W => run_make (P := Try.prog) W 70 75 i1 _ Try.underlying70 hi1 hz1 .i64 .i64 nb nb (by omega) (Int.le_refl _) (by rw [hb1]; omega) (by omega)
  simp only [Int.toNat_natCast, hs1] at hmk
  have HM1 : Hid ((madeCells (Value.agg #[.slice none 0 0, .bool false, .bool false, .int .i64 0]).cells (nb * 4)).size = 4 * nb ∧ ∀ j, j < nb → (madeCells (Value.agg #[.slice none 0 0, .bool false, .bool false, .int .i64 0]).cells (nb * 4))[j * 4]? = some (.slice none 0 0) ∧ (madeCells (Value.agg #[.slice none 0 0, .bool false, .bool false, .int .i64 0]).cells (nb * 4))[j * 4 + 1]? = some (.bool false) ∧
      (madeCells (Value.agg #[.slice none 0 0, .bool false, .bool false, .int .i64 0]).cells (nb * 4))[j * 4 + 2]? = some (.bool false) ∧ (madeCells (Value.agg #[.slice none 0 0, .bool false, .bool false, .int .i64 0]).cells (nb * 4))[j * 4 + 3]? = some (.int .i64 0)) := Lib.hid ⟨(size_madeCells _ _).trans (by omega), fun j hj => by
    have e : (Value.agg #[.slice none 0 0, .bool false, .bool false, .int .i64 0]).cells = #[.slice none 0 0, .bool false, .bool false, .int .i64 0] := rfl
    rw [e]
    refine ⟨?_, ?_, ?_, ?_⟩
    · simp [madeCells, show j * 4 < nb * 4 by omega]
    · simp [madeCells, show j * 4 + 1 < nb * 4 by omega, Nat.add_mod]
    · simp [madeCells, show j * 4 + 2 < nb * 4 by omega, Nat.add_mod]
    · simp [madeCells, show j * 4 + 3 < nb * 4 by omega, Nat.add_mod]⟩
  have HGd := Lib.hid hg
  have H1 := Lib.hid h1
  have H2 := Lib.hid h2
  have H3 := Lib.hid h3
  have HSm := Lib.hid hsm
  have L1 := Lib.hid l1
  have L2 := Lib.hid l2
  have L3 := Lib.hid l3
  unfold geoV at HLo ⊢
  clear hi1 hz1 hs1 hb1 hg h1 h2 h3 hsm l1 l2 l3
  go_enter Try.func9, Try.ntmps9
  go_upto_region 1 with (fail)
  have HB0 := Lib.hid ((Below.refl w.heap.size w).alloc (Nat.le_refl _) (.cells #[.int .i64 nb, .int .i64 np, .int .i64 sz] 23))
  have BG0 := Lib.hid (Blk.new w 23 #[.int .i64 nb, .int .i64 np, .int .i64 sz])
  generalize (w.alloc (.cells #[.int .i64 nb, .int .i64 np, .int .i64 sz] 23)) = W at HB0 BG0 ⊢
  obtain ⟨gb, hgb⟩ : ∃ gb, w.heap.size = gb := ⟨_, rfl⟩
  have HGb := Lib.hid hgb
  rw [hgb] at BG0 ⊢
  clear hgb
  have q0 := BG0.out.cell 0
  have q1 := BG0.out.cell 1
  have q2 := BG0.out.cell 2
  go_wp2_with fail
  refine (HLo.out _ HB0.out).mono ?_
  rintro r w1 ⟨hcase, hb⟩
  have HB1 := Lib.hid (HB0.out.trans (hb.mono HB0.out.size))
  have BG : Hid (Blk w1 gb 23 #[.int .i64 nb, .int .i64 np, .int .i64 sz]) := Lib.hid (BG0.out.below hb BG0.out.lt)
  clear hb q0 q1 q2 HLo BG0
  rcases hcase with ⟨hok, rfl⟩ | ⟨hno, rfl⟩
  case inr =>
    have HNo := Lib.hid hno
    clear hno
    go_wp2_with fail
    go_ret2
    exact ⟨.inr ⟨HNo.out, rfl⟩, HB1.out⟩
  have HOk := Lib.hid hok
  have e1 : n1 = nb * np := by rw [← L1.out]; exact hok.1
  have e2 : n2 = nb := by rw [← L2.out]; exact hok.2.1
  have e3 : n3 = nb := by rw [← L3.out]; exact hok.2.2.1
  have HE1 := Lib.hid e1
  clear hok e1
  subst e2 e3
  have q0 := BG.out.cell 0
  have q1 := BG.out.cell 1
  have q2 := BG.out.cell 2
  have r0 := fun ob => cell_alloc q0 ob
  have r1 := fun ob => cell_alloc q1 ob
  have r2 := fun ob => cell_alloc q2 ob
  go_wp2_with fail
  go_region
  generalize hcs1 : madeCells (Value.agg #[.slice none 0 0, .bool false, .bool false, .int .i64 0]).cells (n3 * 4) = cs1 at HM1
  have hcs1' : madeCells #[.slice none 0 0, .bool false, .bool false, .int .i64 0] (n3 * 4) = cs1 := hcs1
  rw [hcs1']
  have N0 : Hid (LdI w (((w1.alloc (.cells cs1 75)).alloc (.cells #[.int .i64 n3, .int .i64 np, .int .i64 sz, .slice (some ⟨w1.heap.size, 0, none⟩) n3 n3, .bool true, .slice none 0 0, .int .i64 0, .int .i64 0, .int .i64 0] 72)).drew) gb w1.heap.size (w1.heap.size + 1) n3 np sz 0 ls bs ws) := Lib.hid (by
    refine ⟨(BG.out.alloc _).alloc _, ?_, ((HB1.out.alloc HB1.out.size _).alloc (by have := HB1.out.size; simp; omega) _).drew, ⟨by rw [HGb.out]; exact Nat.le_refl _, BG.out.lt, by omega⟩, fun _ => 0, ⟨cs1, (Blk.new w1 _ cs1).alloc _, HM1.out.1, fun j hj => ?_⟩, fun j hj => absurd hj (Nat.not_lt_zero _), fun i j hi => absurd hi (Nat.not_lt_zero _)⟩
    · have := Blk.new (w1.alloc (.cells cs1 75)) 72 #[.int .i64 n3, .int .i64 np, .int .i64 sz, .slice (some ⟨w1.heap.size, 0, none⟩) n3 n3, .bool true, .slice none 0 0, .int .i64 0, .int .i64 0, .int .i64 0]
      have h2 : Blk ((w1.alloc (.cells cs1 75)).alloc (.cells #[.int .i64 n3, .int .i64 np, .int .i64 sz, .slice (some ⟨w1.heap.size, 0, none⟩) n3 n3, .bool true, .slice none 0 0, .int .i64 0, .int .i64 0, .int .i64 0] 72)) (w1.heap.size + 1) 72 #[.int .i64 n3, .int .i64 np, .int .i64 sz, .slice (some ⟨w1.heap.size, 0, none⟩) n3 n3, .bool true, .slice none 0 0, .int .i64 0, .int .i64 0, .int .i64 0] := by simpa using this
      exact h2
    · obtain ⟨e0, e1, e2, e3⟩ := HM1.out.2 j hj
      exact ⟨_, _, _, _, e0, e1, e2, e3, fun h => absurd h (Nat.not_lt_zero _)⟩)
  generalize (((w1.alloc (.cells cs1 75)).alloc (.cells #[.int .i64 n3, .int .i64 np, .int .i64 sz, .slice (some ⟨w1.heap.size, 0, none⟩) n3 n3, .bool true, .slice none 0 0, .int .i64 0, .int .i64 0, .int .i64 0] 72)).drew) = W2 at N0
  clear hcs1 hcs1' HM1 hmk q0 q1 q2 r0 r1 r2 HB1
  generalize w1.heap.size = bb at N0
  clear BG
  have c3' := N0.out.chip.cell 3
  go_wp2_with fail
  go_loopw [11, 12, 30] (fun _ _ i wr => ∃ k : Nat, k ≤ n3 ∧ i = .int .i64 k ∧ Hid (LdI w wr gb bb (bb + 1) n3 np sz k ls bs ws)) (fun _ _ i _ => n3 - (intOf i).toNat)
  case atStart => exact ⟨0, by omega, rfl, N0⟩
  case round =>
    obtain ⟨k, hk, rfl, hN⟩ := hrel
    clear N0 c3'
    by_cases hlt : k < n3
    · have kl : (k : Int) < (n3 : Int) := by omega
      have k0 : (0 : Int) ≤ (k : Int) := by omega
      obtain ⟨P, hP⟩ : ∃ P, k * np = P := ⟨_, rfl⟩
      have hkn : P + np ≤ n1 := by
        rw [HE1.out, ← hP, ← Nat.succ_mul]; exact Nat.mul_le_mul_right _ hlt
      have bn1 : -9223372036854775808 ≤ ((P : Nat) : Int) ∧ ((P : Nat) : Int) ≤ 9223372036854775807 := by omega
      have bn2 : -9223372036854775808 ≤ ((P + np : Nat) : Int) ∧ ((P + np : Nat) : Int) ≤ 9223372036854775807 := by omega
      have hPl : Hid (P + np ≤ ls.length) := Lib.hid (by rw [L1.out]; exact hkn)
      obtain ⟨pb1, po1, ha1⟩ : ∃ b off, a1 = some ⟨b, off, none⟩ := by
        rcases H1.out with h | ⟨b, off, e, -⟩
        · have := L1.out; rw [h] at this; simp at this; omega
        · exact ⟨b, off, e⟩
      have hmid := midB pb1 po1 n1 c1 P (P + np) (by omega) (by omega)
      rw [show P + np - P = np by omega] at hmid
      have eP : IntKind.i64.wrap ((k : Int) * (np : Int)) = ((P : Nat) : Int) := by
        have e : (k : Int) * (np : Int) = ((P : Nat) : Int) := by rw [← hP]; push_cast; rfl
        rw [e]
        exact IntWalk.i64_in _ bn1
      have eQ : IntKind.i64.wrap (((k : Int) + 1) * (np : Int)) = ((P + np : Nat) : Int) := by
        have e : ((k : Int) + 1) * (np : Int) = ((P + np : Nat) : Int) := by rw [← hP, ← Nat.succ_mul]; push_cast; rfl
        rw [e]
        exact IntWalk.i64_in _ bn2
      have c1' := hN.out.geo.cell 1
      subst ha1
      have hlen : ((ls.drop P).take np).length = np := by rw [List.length_take, List.length_drop]; have := hPl.out; omega
      have hsml : ∀ l ∈ (ls.drop P).take np, l.length ≤ 100000 := fun l hl => HSm.out l (List.mem_of_mem_drop (List.mem_of_mem_take hl))
      have hrc := (H1.out.below hN.out.bel).cut hPl.out
      have HCo := Lib.hid (fun w' (hb : Below wr.heap.size wr w') => copied_any (some ⟨pb1, po1 + P, none⟩) np (c1 - P) ((ls.drop P).take np) w' (hrc.below hb) hlen (by omega) hsml)
      have hkb : k < bs.length := by rw [L2.out]; exact hlt
      have hkw : k < ws.length := by rw [L3.out]; exact hlt
      obtain ⟨b2, o2, rfl, y2⟩ := (H2.out.below hN.out.bel).at hkb
      obtain ⟨b3, o3, rfl, y3⟩ := (H3.out.below hN.out.bel).at hkw
      obtain ⟨pb, ⟨cs, hcs, hcz, hcv⟩, -⟩ := hN.out.rest
      obtain ⟨v0, v1, v2, v3, f0, f1, f2, f3, -⟩ := hcv k hlt
      have x0 := (hcs.cell (k * 4)).trans f0
      have x1 := (hcs.cell (k * 4 + 1)).trans f1
      have x2 := (hcs.cell (k * 4 + 2)).trans f2
      have x3 := (hcs.cell (k * 4 + 3)).trans f3
      have c3' : wr.cell? ⟨bb + 1, 3, none⟩ = some (.slice (some ⟨bb, 0, none⟩) n3 n3) := hN.out.chip.cell 3
      have hne : bb ≠ bb + 1 := by omega
      have HEnd : Hid (∀ (w3 : World) (g : Nat), Below wr.heap.size wr w3 → wr.heap.size ≤ g → Rn w3 (g + 1) g np ((ls.drop P).take np) → LdI w ((((w3.setCell ⟨bb, k * 4, none⟩ (.slice (some ⟨g, 0, none⟩) np np)).setCell ⟨bb, k * 4 + 1, none⟩ (.bool false)).setCell ⟨bb, k * 4 + 2, none⟩ (.bool bs[k]!)).setCell ⟨bb, k * 4 + 3, none⟩ (.int .i64 ws[k]!)) gb bb (bb + 1) n3 np sz (k + 1) ls bs ws) := Lib.hid (fun w3 g hb hg hr => by
        rw [← hP] at hr
        exact hN.out.next hlt (by rw [L1.out, HE1.out]) hb hg hr (Kp.setCell (p := ⟨bb, k * 4 + 3, none⟩) (Kp.setCell (p := ⟨bb, k * 4 + 2, none⟩) (Kp.setCell (p := ⟨bb, k * 4 + 1, none⟩) (Kp.setCell (p := ⟨bb, k * 4, none⟩) (Kp.refl (fun b => b = bb) w3) (.inl rfl) _) (.inl rfl) _) (.inl rfl) _) (.inl rfl) _)
          (fun cs h => (((h.put (k * 4) _).put (k * 4 + 1) _).put (k * 4 + 2) _).put (k * 4 + 3) _))
      generalize bs[k]! = yb at y2 HEnd
      generalize ws[k]! = xw at y3 HEnd
      have SS := Lib.hid (fun w' (h : Below wr.heap.size wr w') => (⟨(h.cell (block_lt_of_cell c3')).trans c3', (h.cell (block_lt_of_cell y2)).trans y2, (h.cell (block_lt_of_cell y3)).trans y3, (h.cell (block_lt_of_cell x0)).trans x0, (h.cell (block_lt_of_cell x1)).trans x1, (h.cell (block_lt_of_cell x2)).trans x2, (h.cell (block_lt_of_cell x3)).trans x3, fun i => (h.frozen (p := ⟨bb, i, none⟩) hcs.lt).trans (hcs.frozen i), h⟩ :
        w'.cell? ⟨bb + 1, 3, none⟩ = some (.slice (some ⟨bb, 0, none⟩) n3 n3) ∧ w'.cell? ⟨b2, o2 + k, none⟩ = some (.bool yb) ∧ w'.cell? ⟨b3, o3 + k, none⟩ = some (.int .i64 xw) ∧ w'.cell? ⟨bb, k * 4, none⟩ = some v0 ∧ w'.cell? ⟨bb, k * 4 + 1, none⟩ = some v1 ∧ w'.cell? ⟨bb, k * 4 + 2, none⟩ = some v2 ∧ w'.cell? ⟨bb, k * 4 + 3, none⟩ = some v3 ∧ (∀ i, w'.frozen? ⟨bb, i, none⟩ = false) ∧ Below wr.heap.size wr w'))
      have zf := fun i => hcs.frozen i
      clear hlen hsml hrc hkb hkw hcs hcz hcv f0 f1 f2 f3 hN hP
      go_upto_region 8 with (fail)
      rw [show P + np - P = np from Nat.add_sub_cancel_left P np]
      clear hmid eP eQ c1' bn1 bn2
      go_region_with (go_at_call 33; refine (HCo.out _ ?_).mono ?_; exact (Below.refl _ wr).drew; rintro r w3 ⟨rfl, hrn, hb3⟩; obtain ⟨s0, s1, s2, s3, s4, s5, s6, s7, hb3'⟩ := SS.out w3 (below_undraw hb3))
      all_goals
        have HF := Lib.hid (HEnd.out w3 _ hb3' (Nat.le_refl _) hrn)
        clear hrn hb3 hb3' s0 s1 s2 s3 s4 s5 s6 s7 HEnd SS HCo x0 x1 x2 x3 zf y2 y3 c3'
        go_wp2
        go_roundw
        case rel => exact ⟨k + 1, by omega, by go_num, HF⟩
        case measure => simp [intOf]; omega
    · have hkn : k = n3 := by omega
      have kl : ¬ (k : Int) < (n3 : Int) := by omega
      subst hkn
      obtain ⟨o, ho, hch, hf⟩ := hN.out.chAt HGd.out HOk.out
      have HCh := Lib.hid hch
      have HF := Lib.hid hf
      have HBe := Lib.hid hN.out.bel
      have HO := Lib.hid ho
      clear hN hch hf ho
      go_wp2
      go_ret2
      exact ⟨.inl ⟨HOk.out, o, by rw [show o.p = .pointer (some ⟨o.bc, 0, none⟩) from rfl, HO.out]; rfl, HCh.out, HF.out⟩, HBe.out⟩

end Go.Proofs.Ytiaaeiefgnoiaaa
