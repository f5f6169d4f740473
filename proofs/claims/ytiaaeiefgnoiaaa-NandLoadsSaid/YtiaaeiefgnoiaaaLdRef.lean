/-
  Pages loaded: the document's call Load, exactly. Nothing of one statement alone stands here.
-/
import Derived.Test.YtiaaeiefgnoiaaaLdM
import Derived.Test.YtiaaeiefgnoiaaaRxBlank
import Derived.Test.YtiaaeiefgnoiaaaRefMake
import Derived.Test.YtiaaeiefgnoiaaaRowLB
namespace Go.Proofs.Ytiaaeiefgnoiaaa
open Go.RowKit Crcm Go.ChangeShapes

/-- a row of bools -/
def Rbo (w : World) (a : Option Addr) (l : List Bool) : Prop := l = [] ∨ ∃ b off, a = some ⟨b, off, none⟩ ∧ ∀ j, j < l.length → w.cell? ⟨b, off + j, none⟩ = some (.bool l[j]!)
theorem Rbo.below {w w' : World} {a : Option Addr} {l : List Bool} (h : Rbo w a l) (hb : Below w.heap.size w w') : Rbo w' a l := by
  rcases h with h | ⟨b, off, rfl, h⟩
  · exact .inl h
  · exact .inr ⟨b, off, rfl, fun j hj => (hb.cell (p := ⟨b, off + j, none⟩) (block_lt_of_cell (h j hj))).trans (h j hj)⟩
theorem Rbo.at {w : World} {a : Option Addr} {l : List Bool} (h : Rbo w a l) {j : Nat} (hj : j < l.length) : ∃ b off, a = some ⟨b, off, none⟩ ∧ w.cell? ⟨b, off + j, none⟩ = some (.bool l[j]!) := by
  rcases h with h | ⟨b, off, rfl, h⟩
  · rw [h] at hj; simp at hj
  · exact ⟨b, off, rfl, h j hj⟩
theorem Ri.at {w : World} {a : Option Addr} {l : List Int} (h : Ri w a l) {j : Nat} (hj : j < l.length) : ∃ b off, a = some ⟨b, off, none⟩ ∧ w.cell? ⟨b, off + j, none⟩ = some (.int .i64 l[j]!) := by
  rcases h.2 with h2 | ⟨b, off, e, h2⟩
  · rw [h2] at hj; simp at hj
  · exact ⟨b, off, e, by rw [getElem!_pos l j hj]; exact h2 j hj⟩
theorem Rw.outXL {w : World} {X : Nat → Prop} {A : Option Addr} {l : List Int} (h : Rw w A l) (hX : ∀ b, X b → w.heap.size ≤ b) : RwX w X A l := by
  refine ⟨h, fun b off s e hl g => ?_⟩
  rcases h.2.2 with h3 | ⟨b', off', e', h3⟩
  · exact hl h3
  · rw [e'] at e
    injection e with e
    injection e with e1 e2 e3
    subst e1
    have hp : 0 < l.length := by
      cases l with
      | nil => exact absurd rfl hl
      | cons x r => simp
    have h4 : b' < w.heap.size := block_lt_of_cell (h3 0 hp)
    have := hX b' g
    omega

/-- pages, bad blocks and wear that can be loaded -/
def LdOk (nb np sz : Nat) (ls : List (List Int)) (bs : List Bool) (ws : List Int) : Prop :=
  ls.length = nb * np ∧ bs.length = nb ∧ ws.length = nb ∧ (∀ j, j < ls.length → ls[j]!.length = 0 ∨ ls[j]!.length = sz + 32) ∧ ∀ j, j < ws.length → 0 ≤ ws[j]! ∧ ws[j]! ≤ 1099511627776

/-- the chip while blocks are told -/
def l1R (nb np sz k : Nat) (bs : List Bool) (ws : List Int) : Rx := ⟨nb, np, sz, fun _ => [], fun _ => 0, fun _ => false, fun j => if j < k then bs[j]! else false, fun j => if j < k then ws[j]! else 0, [], 0, false, 0, 0⟩
/-- the chip while pages are told -/
def l2R (nb np sz k : Nat) (ls : List (List Int)) (bs : List Bool) (ws : List Int) : Rx := ⟨nb, np, sz, fun i => if i < k then ls[i]! else [], ldn ls np k, fun _ => false, fun j => if j < nb then bs[j]! else false, fun j => if j < nb then ws[j]! else 0, [], 0, false, 0, 0⟩
theorem upto_succ {α : Type} (f : Nat → α) (d : α) (k : Nat) : up1 (fun j => if j < k then f j else d) k (f k) = fun j => if j < k + 1 then f j else d := by
  funext j
  by_cases e : j = k
  · subst e
    rw [up1_at, if_pos (by omega)]
  · rw [up1_ne _ _ e]
    by_cases h : j < k
    · rw [if_pos h, if_pos (by omega)]
    · rw [if_neg h, if_neg (by omega)]

/-- what Load of the document's comes to -/
def RldP (w : World) (X : Nat → Prop) (nb np sz : Nat) (ls : List (List Int)) (bs : List Bool) (ws : List Int) (e : Ending) (w' : World) : Prop :=
  ((LdOk nb np sz ls bs ws ∧ ∃ o : Rb, e = .returned (.tuple #[.pointer (some ⟨o.g, 0, none⟩), .int .i64 0]) ∧ RxAt w' (fun b => X b ∨ o.F b) o (ldR nb np sz ls bs ws) ∧ ∀ b, o.F b → w.heap.size ≤ b) ∨
    (¬ LdOk nb np sz ls bs ws ∧ e = .returned (.tuple #[.pointer none, .int .i64 1]))) ∧ Below w.heap.size w w'

set_option maxRecDepth 100000 in
set_option maxHeartbeats 4000000 in
theorem rxload_any (nb np sz : Nat) (w0 w : World) (hg : Gd nb np sz) (X : Nat → Prop) (hX : ∀ b, X b → w0.heap.size ≤ b ∧ b < w.heap.size) (hb0 : Below w0.heap.size w0 w)
    (a1 : Option Addr) (n1 c1 : Nat) (ls : List (List Int)) (h1 : Rl w0 a1 ls) (l1 : ls.length = n1) (s1 : n1 ≤ 200) (a2 : Option Addr) (n2 c2 : Nat) (bs : List Bool) (h2 : Rbo w0 a2 bs) (l2 : bs.length = n2) (s2 : n2 ≤ 200)
    (a3 : Option Addr) (n3 c3 : Nat) (ws : List Int) (h3 : Ri w0 a3 ws) (l3 : ws.length = n3) (s3 : n3 ≤ 200) :
    Calls Try.prog 10 #[geoV nb np sz, .slice a1 n1 c1, .slice a2 n2 c2, .slice a3 n3 c3] w (RldP w X nb np sz ls bs ws) := by
  have HR := Lib.hid (fun W => rright_yes (a := nb) (b := np) (s := sz) (by unfold Gd at hg; unfold GdI; omega) W)
  have HBl := Lib.hid (fun W (hW : w.heap.size ≤ W.heap.size) => rxblank_any nb np sz W hg X (fun b h => Nat.lt_of_lt_of_le (hX b h).2 hW))
  have HXl := Lib.hid (fun b h => (hX b h).1)
  clear hX
  have hnb : nb < 129 := hg.2.1
  have hnp : np < 33 := hg.2.2.2.1
  have hnp0 : 3 < np := hg.2.2.1
  have hsz : sz ≤ 512 := by unfold Gd at hg; omega
  have hN2 : nb * np ≤ 128 * 33 := Nat.mul_le_mul (by omega) (by omega)
  obtain ⟨N, hN⟩ : ∃ N, nb * np = N := ⟨_, rfl⟩
  have hNi : IntKind.i64.wrap ((nb : Int) * (np : Int)) = (N : Int) := by
    have e : (nb : Int) * (np : Int) = (N : Int) := by rw [← hN]; push_cast; rfl
    rw [e]
    exact IntWalk.i64_in _ ⟨by omega, by omega⟩
  have HN := Lib.hid hN
  have H1 := Lib.hid h1
  have H2 := Lib.hid h2
  have H3 := Lib.hid h3
  have L1 := Lib.hid l1
  have L2 := Lib.hid l2
  have L3 := Lib.hid l3
  have HB00 := Lib.hid hb0
  have BG := Blk.new w 23 #[.int .i64 nb, .int .i64 np, .int .i64 sz]
  have HG1 := Lib.hid BG
  have q0 := BG.cell 0
  have q1 := BG.cell 1
  have q2 := BG.cell 2
  have HB0 := Lib.hid ((Below.refl w.heap.size w).alloc (Nat.le_refl _) (.cells #[.int .i64 nb, .int .i64 np, .int .i64 sz] 23))
  unfold geoV at HR HBl ⊢
  clear h1 h2 h3 l1 l2 l3 hb0 hg BG hN
  go_enter Try.func10, Try.ntmps10
  go_upto_region 1 with (fail)
  generalize (w.alloc (.cells #[.int .i64 nb, .int .i64 np, .int .i64 sz] 23)) = W at q0 q1 q2 HB0 HG1 ⊢
  obtain ⟨gb, hgb⟩ : ∃ gb, w.heap.size = gb := ⟨_, rfl⟩
  have HGb := Lib.hid hgb
  rw [hgb] at q0 q1 q2 HG1 ⊢
  clear hgb
  go_wp2_with fail
  refine (HR.out _).mono ?_
  rintro r w1 ⟨rfl, hb⟩
  have HB1 := Lib.hid (HB0.out.trans (hb.mono HB0.out.size))
  have HG2 := Lib.hid (HG1.out.below hb HG1.out.lt)
  clear hb q0 q1 q2 HG1
  have q0 : w1.cell? ⟨gb, 0, none⟩ = some (.int .i64 nb) := HG2.out.cell 0
  have q1 : w1.cell? ⟨gb, 1, none⟩ = some (.int .i64 np) := HG2.out.cell 1
  have q2 : w1.cell? ⟨gb, 2, none⟩ = some (.int .i64 sz) := HG2.out.cell 2
  by_cases e1 : n1 = N
  case neg =>
    have t1 : ((n1 : Int) != (N : Int)) = true := by simp; omega
    have HNo : Hid (¬ LdOk nb np sz ls bs ws) := Lib.hid (fun h => e1 (by rw [← L1.out, h.1, HN.out]))
    clear e1
    go_wp2_with fail
    go_ret2
    exact ⟨.inr ⟨HNo.out, rfl⟩, HB1.out⟩
  by_cases e2 : n2 = nb
  case neg =>
    have t1 : ((n1 : Int) != (N : Int)) = false := by simp; omega
    have t2 : ((n2 : Int) != (nb : Int)) = true := by simp; omega
    have HNo : Hid (¬ LdOk nb np sz ls bs ws) := Lib.hid (fun h => e2 (by rw [← L2.out, h.2.1]))
    clear e1 e2
    go_wp2_with fail
    go_ret2
    exact ⟨.inr ⟨HNo.out, rfl⟩, HB1.out⟩
  by_cases e3 : n3 = nb
  case neg =>
    have t1 : ((n1 : Int) != (N : Int)) = false := by simp; omega
    have t2 : ((n2 : Int) != (nb : Int)) = false := by simp; omega
    have t3 : ((n3 : Int) != (nb : Int)) = true := by simp; omega
    have HNo : Hid (¬ LdOk nb np sz ls bs ws) := Lib.hid (fun h => e3 (by rw [← L3.out, h.2.2.1]))
    clear e1 e2 e3
    go_wp2_with fail
    go_ret2
    exact ⟨.inr ⟨HNo.out, rfl⟩, HB1.out⟩
  subst e1 e2 e3
  have t1 : ((n1 : Int) != (n1 : Int)) = false := bne_self_eq_false _
  have t2 : ((n3 : Int) != (n3 : Int)) = false := bne_self_eq_false _
  go_wp2_with fail
  refine (HBl.out _ HB1.out.size).mono ?_
  rintro r w2 ⟨⟨o, rfl, hrc, hof⟩, hb⟩
  have HB2 := Lib.hid (HB1.out.trans (hb.mono HB1.out.size))
  have HG3 := Lib.hid (HG2.out.below hb HG2.out.lt)
  have HRC : Hid (RxAt w2 (fun b => X b ∨ o.F b) o (l1R n3 np sz 0 bs ws)) := Lib.hid (by
    have e : l1R n3 np sz 0 bs ws = rx0 n3 np sz := by unfold l1R rx0; simp
    rw [e]; exact hrc)
  have HOF : Hid (∀ b, o.F b → w.heap.size ≤ b ∧ gb < b) := Lib.hid (fun b h => by
    have h1 := hof b h
    have h2 := HG2.out.lt
    have h3 := HB1.out.size
    omega)
  clear hb hrc hof q0 q1 q2 HG2 t1 t2 HBl HR
  go_wp2_with fail
  go_loopw [11] (fun i wr => ∃ k : Nat, k ≤ n3 ∧ i = .int .i64 k ∧ Hid (∀ j, j < k → 0 ≤ ws[j]! ∧ ws[j]! ≤ 1099511627776) ∧ Hid (RxAt wr (fun b => X b ∨ o.F b) o (l1R n3 np sz k bs ws)) ∧ Hid (Blk wr gb 23 #[.int .i64 n3, .int .i64 np, .int .i64 sz]) ∧ Hid (Below w.heap.size w wr)) (fun i _ => n3 - (intOf i).toNat)
  case atStart => exact ⟨0, Nat.zero_le _, rfl, Lib.hid (fun j h => by omega), HRC, HG3, HB2⟩
  case round =>
    obtain ⟨k, hk, rfl, hA, hC, hG, hB⟩ := hrel
    clear HRC HG3 HB2
    by_cases hlt : k < n3
    · have kl : (k : Int) < (n3 : Int) := by omega
      have k0 : (0 : Int) ≤ (k : Int) := by omega
      have hkw : k < ws.length := by rw [L3.out]; exact hlt
      have hkb : k < bs.length := by rw [L2.out]; exact hlt
      obtain ⟨b3, o3, rfl, q3⟩ := (H3.out.below (HB00.out.trans (hB.out.mono HB00.out.size))).at hkw
      obtain ⟨b2, o2, rfl, q2⟩ := (H2.out.below (HB00.out.trans (hB.out.mono HB00.out.size))).at hkb
      have HNo : Hid (¬ (0 ≤ ws[k]! ∧ ws[k]! ≤ 1099511627776) → ¬ LdOk n3 np sz ls bs ws) := Lib.hid (fun h g => h (g.2.2.2.2 k hkw))
      have HYes : Hid ((0 ≤ ws[k]! ∧ ws[k]! ≤ 1099511627776) → ∀ j, j < k + 1 → 0 ≤ ws[j]! ∧ ws[j]! ≤ 1099511627776) := Lib.hid (fun h j hj => by
        by_cases e : j = k
        · subst e; exact h
        · exact hA.out j (by omega))
      have HStep : Hid (∀ W, RxAt W (fun b => X b ∨ o.F b) o { l1R n3 np sz k bs ws with bad := up1 (l1R n3 np sz k bs ws).bad k bs[k]!, wr := up1 (l1R n3 np sz k bs ws).wr k ws[k]! } → RxAt W (fun b => X b ∨ o.F b) o (l1R n3 np sz (k + 1) bs ws)) := Lib.hid (fun W h => by
        unfold l1R at h
        dsimp only at h
        rw [upto_succ (fun j => bs[j]!), upto_succ (fun j => ws[j]!)] at h
        exact h)
      have H3W : Hid (∀ W, Below w.heap.size w W → W.cell? ⟨b3, o3 + k, none⟩ = some (.int .i64 ws[k]!)) := Lib.hid (fun W hb => by
        obtain ⟨b', o', e, q⟩ := (H3.out.below (HB00.out.trans (hb.mono HB00.out.size))).at hkw
        injection e with e
        injection e with e1 e2 e3
        subst e1 e2
        exact q)
      generalize ws[k]! = x at q3 HNo HYes HStep H3W
      generalize bs[k]! = y at q2 HStep
      clear hkw hkb hA
      by_cases x0 : x < 0
      · have u0 : decide (x < 0) = true := decide_eq_true x0
        have HN' := Lib.hid (HNo.out (by omega))
        clear x0 HYes q2
        go_wp2_with fail
        go_ret2
        exact ⟨.inr ⟨HN'.out, rfl⟩, hB.out⟩
      have u0 : decide (x < 0) = false := decide_eq_false x0
      by_cases x1 : 1099511627776 < x
      · have u1 : decide (1099511627776 < x) = true := decide_eq_true x1
        have HN' := Lib.hid (HNo.out (by omega))
        clear x0 x1 HYes q2
        go_wp2_with fail
        go_ret2
        exact ⟨.inr ⟨HN'.out, rfl⟩, hB.out⟩
      have u1 : decide (1099511627776 < x) = false := decide_eq_false x1
      have HY := Lib.hid (HYes.out (by omega))
      clear x0 x1 HYes HNo
      have hCr := hC.out.rc
      obtain ⟨-, -, -, r6, -⟩ := hCr.rows
      obtain ⟨-, -, ⟨zb, cb⟩, -⟩ := hCr.row (k := k) hlt
      have fb := (hCr.froz k).2.2.2.2.1
      have hob := (HOF.out o.b (by simp [Rb.F])).1
      have hov := (HOF.out o.v (by simp [Rb.F])).1
      have hgb : gb ≠ o.b := by have := (HOF.out o.b (by simp [Rb.F])).2; omega
      have hgv : gb ≠ o.v := by have := (HOF.out o.v (by simp [Rb.F])).2; omega
      have C4 := Lib.hid ((hC.out.putb (i := k) hlt y).below (Below.refl _ _).drew)
      have G4 := Lib.hid (show Blk (wr.setCell ⟨o.b, k, none⟩ (.bool y)).drew gb 23 _ from hG.out.far (p := ⟨o.b, k, none⟩) hgb (.bool y))
      have B4 := Lib.hid (hB.out.setCell (p := ⟨o.b, k, none⟩) hob (.bool y)).drew
      change RcAt wr _ o n3 np sz false at hCr
      have r6' : wr.cell? ⟨o.g, 6, none⟩ = some (.slice (some ⟨o.b, 0, none⟩) n3 n3) := r6
      clear r6 hCr
      go_upto_region 9 with (fail)
      go_region
      generalize (wr.setCell ⟨o.b, k, none⟩ (.bool y)).drew = W4 at C4 G4 B4 ⊢
      clear r6' cb fb q2 q3 hC hG hB
      have hCr := C4.out.rc
      obtain ⟨-, -, -, -, r7⟩ := hCr.rows
      obtain ⟨-, -, -, ⟨zv, cv⟩⟩ := hCr.row (k := k) hlt
      have fv := (hCr.froz k).2.2.2.2.2
      have q3 := H3W.out W4 B4.out
      have C5 := Lib.hid (HStep.out _ ((C4.out.putv (i := k) hlt x).below (Below.refl _ _).drew))
      have G5 := Lib.hid (show Blk (W4.setCell ⟨o.v, k, none⟩ (.int .i64 x)).drew gb 23 _ from G4.out.far (p := ⟨o.v, k, none⟩) hgv (.int .i64 x))
      have B5 := Lib.hid (B4.out.setCell (p := ⟨o.v, k, none⟩) hov (.int .i64 x)).drew
      have r7' : W4.cell? ⟨o.g, 7, none⟩ = some (.slice (some ⟨o.v, 0, none⟩) n3 n3) := r7
      clear r7 hCr HStep H3W
      go_upto_region 10 with (fail)
      go_region
      generalize (W4.setCell ⟨o.v, k, none⟩ (.int .i64 x)).drew = W5 at C5 G5 B5 ⊢
      clear r7' cv fv q3 C4 G4 B4
      go_wp2
      go_roundw
      case rel => exact ⟨k + 1, by omega, by go_num, HY, C5, G5, B5⟩
      case measure => simp [intOf]; omega
    · have hkn : k = n3 := by omega
      have kl : ¬ (k : Int) < (n3 : Int) := by omega
      have HAw : Hid (∀ j, j < ws.length → 0 ≤ ws[j]! ∧ ws[j]! ≤ 1099511627776) := Lib.hid (fun j hj => hA.out j (by have := L3.out; omega))
      have HC2 : Hid (RxAt wr (fun b => X b ∨ o.F b) o (l2R n3 np sz 0 ls bs ws)) := Lib.hid (by
        have := hC.out
        rw [hkn] at this
        unfold l1R at this
        unfold l2R
        have e : (fun i => if i < 0 then ls[i]! else []) = fun _ => ([] : List Int) := by funext i; rw [if_neg (by omega)]
        rw [e]
        exact this)
      subst hkn
      have HNp : Hid (k * np = n1) := HN
      have HX' : Hid (∀ b, X b ∨ o.F b → w0.heap.size ≤ b) := Lib.hid (fun b hb => hb.elim (HXl.out b) (fun h => Nat.le_trans HB00.out.size (HOF.out b h).1))
      clear hA hC hk kl
      have HG0 := hG
      have HB0' := hB
      clear hG hB
      go_wp2_with fail
      go_loopw [12] (fun i wr2 => ∃ q : Nat, q ≤ n1 ∧ i = .int .i64 q ∧ Hid (∀ j, j < q → ls[j]!.length = 0 ∨ ls[j]!.length = sz + 32) ∧ Hid (RxAt wr2 (fun b => X b ∨ o.F b) o (l2R k np sz q ls bs ws)) ∧ Hid (Blk wr2 gb 23 #[.int .i64 k, .int .i64 np, .int .i64 sz]) ∧ Hid (Below w.heap.size w wr2)) (fun i _ => n1 - (intOf i).toNat)
      case atStart => exact ⟨0, Nat.zero_le _, rfl, Lib.hid (fun j h => by omega), HC2, HG0, HB0'⟩
      case round =>
        obtain ⟨q, hq, rfl, hA, hC, hG, hB⟩ := hrel
        clear HC2 HG0 HB0'
        by_cases hlt : q < n1
        · have ql : (q : Int) < (n1 : Int) := by omega
          have q0 : (0 : Int) ≤ (q : Int) := by omega
          have hql : q < ls.length := by rw [L1.out]; exact hlt
          obtain ⟨b1, o1, A, cc, rfl, hc, hlc, hrw⟩ := H1.out.at hql
          have HNo : Hid (¬ (ls[q]!.length = 0 ∨ ls[q]!.length = sz + 32) → ¬ LdOk k np sz ls bs ws) := Lib.hid (fun h g => h (g.2.2.2.1 q hql))
          have HYes : Hid ((ls[q]!.length = 0 ∨ ls[q]!.length = sz + 32) → ∀ j, j < q + 1 → ls[j]!.length = 0 ∨ ls[j]!.length = sz + 32) := Lib.hid (fun h j hj => by
            by_cases e : j = q
            · subst e; exact h
            · exact hA.out j (by omega))
          have HSkip : Hid (ls[q]! = [] → l2R k np sz (q + 1) ls bs ws = l2R k np sz q ls bs ws) := Lib.hid (fun h => by
            unfold l2R
            rw [ldn, if_pos h]
            have e : (fun i => if i < q + 1 then ls[i]! else []) = (fun i => if i < q then ls[i]! else ([] : List Int)) := by
              funext i
              by_cases e1 : i = q
              · subst e1; rw [if_pos (by omega), if_neg (by omega), h]
              · by_cases e2 : i < q
                · rw [if_pos e2, if_pos (by omega)]
                · rw [if_neg e2, if_neg (by omega)]
            rw [e])
          have HStep : Hid (ls[q]! ≠ [] → ∀ W, RxAt W (fun b => X b ∨ o.F b) o { l2R k np sz q ls bs ws with pg := up1 (l2R k np sz q ls bs ws).pg q ls[q]!, nx := up1 (l2R k np sz q ls bs ws).nx (q / np) (((q % np : Nat) : Int) + 1) } → RxAt W (fun b => X b ∨ o.F b) o (l2R k np sz (q + 1) ls bs ws)) := Lib.hid (fun hne W h => by
            unfold l2R at h ⊢
            dsimp only at h
            rw [upto_succ (fun j => ls[j]!)] at h
            rw [ldn, if_neg hne]
            exact h)
          have HCW : Hid (∀ W, Below w.heap.size w W → W.cell? ⟨b1, o1 + q, none⟩ = some (.slice A ls[q]!.length cc)) := Lib.hid (fun W hb => ((HB00.out.trans (hb.mono HB00.out.size)).cell (block_lt_of_cell hc)).trans hc)
          have HPW : Hid (∀ W, Below w.heap.size w W → PgX W (fun b => X b ∨ o.F b) (.slice A ls[q]!.length cc) ls[q]!) := Lib.hid (fun W hb => ⟨A, cc, rfl, hlc, (hrw.outXL HX'.out).kp (F := fun _ => False) (Kp.of_below (HB00.out.trans (hb.mono HB00.out.size))) (fun _ g => g.elim)⟩)
          have HNe : Hid (ls[q]!.length ≠ 0 → ls[q]! ≠ []) := Lib.hid (fun h e => h (by rw [e]; rfl))
          have HEm : Hid (ls[q]!.length = 0 → ls[q]! = []) := Lib.hid (fun h => List.eq_nil_of_length_eq_zero h)
          generalize ls[q]! = l at HNo HYes HSkip HStep HCW HPW HNe HEm
          obtain ⟨m, hm⟩ : ∃ m, l.length = m := ⟨_, rfl⟩
          rw [hm] at HNo HYes HCW HPW HNe HEm
          clear hc hlc hrw hA hql hm
          have c4 := HCW.out wr hB.out
          have g2 : wr.cell? ⟨gb, 2, none⟩ = some (.int .i64 sz) := hG.out.cell 2
          have C9 := Lib.hid (fun nq => hC.out.below (below_drewN (Below.refl _ wr) nq))
          have G9 := Lib.hid (fun nq => (show Blk (wr.drewN nq) gb 23 _ from hG.out))
          have B9 := Lib.hid (fun nq => below_drewN hB.out nq)
          by_cases m0 : m = 0
          · have HY := Lib.hid (HYes.out (.inl m0))
            have HS := Lib.hid (HSkip.out (HEm.out m0))
            subst m0
            clear HNo HYes HSkip HStep HPW HNe HEm
            go_upto_region 14 with (fail)
            go_quiet (fail)
            have C10 := Lib.hid (C9.out nq)
            have G10 := Lib.hid (G9.out nq)
            have B10 := Lib.hid (B9.out nq)
            rw [← HS.out] at C10
            generalize wr.drewN nq = W9 at C10 G10 B10 ⊢
            have c4 := HCW.out W9 B10.out
            go_wp2_with fail
            go_roundw
            case rel => exact ⟨q + 1, by omega, by go_num, HY, C10, G10, B10⟩
            case measure => simp [intOf]; omega
          have u0 : 0 < m := by omega
          by_cases m1 : m = sz + 32
          · have u1 : ((m : Int) != (sz : Int) + 32) = false := by simp; omega
            have HY := Lib.hid (HYes.out (.inr m1))
            have HSt := Lib.hid (HStep.out (HNe.out m0))
            clear HNo HYes HSkip HStep HNe HEm m1
            go_upto_region 14 with (fail)
            go_quiet (fail)
            have C10 := Lib.hid (C9.out nq)
            have G10 := Lib.hid (G9.out nq)
            have B10 := Lib.hid (B9.out nq)
            generalize wr.drewN nq = W9 at C10 G10 B10 ⊢
            clear c4 g2 C9 G9 B9 hC hG hB
            have c4 := HCW.out W9 B10.out
            have hCr := C10.out.rc
            obtain ⟨r3, -, -, -, -⟩ := hCr.rows
            have r3' : W9.cell? ⟨o.g, 3, none⟩ = some (.slice (some ⟨o.p, 0, none⟩) (k * np : Nat) (k * np : Nat)) := r3
            rw [HNp.out] at r3'
            obtain ⟨A3, l3, k3, hp3, -, -⟩ := hCr.page (i := q) (by show q < k * np; rw [HNp.out]; exact hlt)
            have hf3 := (hCr.froz q).2.1
            have hop := (HOF.out o.p (by simp [Rb.F])).1
            have hon := (HOF.out o.n (by simp [Rb.F])).1
            have hgp : gb ≠ o.p := by have := (HOF.out o.p (by simp [Rb.F])).2; omega
            have hgn : gb ≠ o.n := by have := (HOF.out o.n (by simp [Rb.F])).2; omega
            have C11 := Lib.hid ((C10.out.putp (i := q) (by show q < k * np; rw [HNp.out]; exact hlt) (HPW.out W9 B10.out)).below (Below.refl _ _).drew)
            have G11 := Lib.hid (show Blk (W9.setCell ⟨o.p, q, none⟩ (.slice A m cc)).drew gb 23 _ from G10.out.far (p := ⟨o.p, q, none⟩) hgp (.slice A m cc))
            have B11 := Lib.hid (B10.out.setCell (p := ⟨o.p, q, none⟩) hop (.slice A m cc)).drew
            clear r3 hCr
            go_wp2_with fail
            go_region
            generalize (W9.setCell ⟨o.p, q, none⟩ (.slice A m cc)).drew = W11 at C11 G11 B11 ⊢
            clear c4 r3' hp3 hf3 C10 G10 B10 HCW HPW
            have hCr := C11.out.rc
            obtain ⟨-, r4, -, -, -⟩ := hCr.rows
            have r4' : W11.cell? ⟨o.g, 4, none⟩ = some (.slice (some ⟨o.n, 0, none⟩) k k) := r4
            have hqd : q / np < k := by rw [Nat.div_lt_iff_lt_mul (by omega), HNp.out]; exact hlt
            obtain ⟨⟨zn, cn⟩, -, -, -⟩ := hCr.row (k := q / np) hqd
            have fn := (hCr.froz (q / np)).2.2.1
            have g1 : W11.cell? ⟨gb, 1, none⟩ = some (.int .i64 np) := G11.out.cell 1
            have C12 := Lib.hid (HSt.out _ ((C11.out.putn (i := q / np) hqd (((q % np : Nat) : Int) + 1)).below (Below.refl _ _).drew))
            have G12 := Lib.hid (show Blk (W11.setCell ⟨o.n, q / np, none⟩ (.int .i64 (((q % np : Nat) : Int) + 1))).drew gb 23 _ from G11.out.far (p := ⟨o.n, q / np, none⟩) hgn (.int .i64 (((q % np : Nat) : Int) + 1)))
            have B12 := Lib.hid (B11.out.setCell (p := ⟨o.n, q / np, none⟩) hon (.int .i64 (((q % np : Nat) : Int) + 1))).drew
            clear r4 hCr HSt
            have hDl : q / np ≤ q := Nat.div_le_self _ _
            have eD0 : (q : Int) / (np : Int) = ((q / np : Nat) : Int) := by push_cast; rfl
            have eM0 : (q : Int) % (np : Int) = ((q % np : Nat) : Int) := by push_cast; rfl
            have hMl : q % np < 33 := by have := Nat.mod_lt q (show 0 < np by omega); omega
            obtain ⟨D, hD⟩ : ∃ D, q / np = D := ⟨_, rfl⟩
            obtain ⟨M, hM⟩ : ∃ M, q % np = M := ⟨_, rfl⟩
            rw [hD] at hqd cn fn C12 G12 B12 eD0 hDl
            rw [hM] at C12 G12 B12 eM0 hMl
            have bD : -9223372036854775808 ≤ (D : Int) ∧ (D : Int) ≤ 9223372036854775807 := by omega
            have bM : -9223372036854775808 ≤ (M : Int) ∧ (M : Int) ≤ 9223372036854775807 := by omega
            have bM1 : -9223372036854775808 ≤ (M : Int) + 1 ∧ (M : Int) + 1 ≤ 9223372036854775807 := by omega
            have d0 : (0 : Int) ≤ (D : Int) := by omega
            have d1 : (D : Int) < (k : Int) := by omega
            have z0 : ((np : Int) == 0) = false := by simp; omega
            have z1 : ¬ (np : Int) = 0 := by omega
            have znp : ¬ np = 0 := by omega
            have eD1 : IntKind.i64.wrap ((q : Int) / (np : Int)) = (D : Int) := by rw [eD0]; exact IntWalk.i64_in _ bD
            have HV : Hid (wrap64 ((q : Int) % (np : Int) + 1) = (M : Int) + 1) := Lib.hid (by rw [eM0]; exact IntWalk.wrap64_in _ bM1)
            clear hD hM eD0 eM0 bD bM bM1
            go_wp2_with fail
            go_region
            rw [HV.out]
            generalize (W11.setCell ⟨o.n, D, none⟩ (.int .i64 ((M : Int) + 1))).drew = W12 at C12 G12 B12 ⊢
            go_wp2
            go_roundw
            case rel => exact ⟨q + 1, by omega, by go_num, HY, C12, G12, B12⟩
            case measure => simp [intOf]; omega
          · have u1 : ((m : Int) != (sz : Int) + 32) = true := by simp; omega
            have HN' := Lib.hid (HNo.out (by omega))
            clear HYes HSkip HStep HNe HEm m1
            go_upto_region 14 with (fail)
            go_quiet (fail)
            have B10 := Lib.hid (B9.out nq)
            go_wp2
            go_ret2
            exact ⟨.inr ⟨HN'.out, rfl⟩, B10.out⟩
        · have hqn : q = n1 := by omega
          have ql : ¬ (q : Int) < (n1 : Int) := by omega
          have HOkk : Hid (LdOk k np sz ls bs ws) := Lib.hid ⟨by rw [L1.out, HNp.out], L2.out, L3.out, fun j hj => hA.out j (by have := L1.out; omega), HAw.out⟩
          have HCf : Hid (RxAt wr (fun b => X b ∨ o.F b) o (ldR k np sz ls bs ws)) := Lib.hid (by
            have := hC.out
            rw [hqn] at this
            unfold ldR
            rw [HNp.out]
            exact this)
          clear hA hC
          go_wp2
          go_ret2
          exact ⟨.inl ⟨HOkk.out, o, rfl, HCf.out, fun b hb => (HOF.out b hb).1⟩, hB.out⟩

end Go.Proofs.Ytiaaeiefgnoiaaa
