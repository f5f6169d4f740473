/-
  The program's iterator of a block's pages.
-/
import Derived.RangeFuncBox
import Derived.Lib.SliceRun
import Derived.RangeFuncLeaves
import Derived.RangeFuncFrom
import Derived.OwnWalkIn
import Derived.TacticsInMore
import Derived.LoopNIn
import Derived.LoopIn
import Derived.Test.YtjpiaanpkpjpcaaNandPages
namespace Go.Proofs.Ytjpiaanpkpjpcaa
open Go.RowKit Crcm Go.ChangeShapes

attribute [local go_sem] Oper.semAt_some

theorem neq_nil {P : Program} (w : World) (t e : TypeId) (a : Option Addr) (n c n' c' : Nat) (h : P.underlying t = some (.slice e)) :
    (binOp .neq t (.slice a n c) (.slice none n' c')).run P w = .ok (.bool (!a.isNone)) w := by
  simp only [binOp]
  simp [Op.equal, Op.maxDepth, Lib.run_equalIn_slice_nil w 9999 t e a n c n' c' h]
/-- no block but these below the bound has turned -/
def Kb (T B : Nat) (W W' : World) : Prop := ∀ b, b ≠ T → b < B → W'.heap[b]? = W.heap[b]?
theorem Kb.trans {T B : Nat} {a b c : World} (h : Kb T B a b) (k : Kb T B b c) : Kb T B a c := fun i h1 h2 => (k i h1 h2).trans (h i h1 h2)
theorem Kb.refl (T B : Nat) (a : World) : Kb T B a a := fun _ _ _ => rfl
theorem Kb.below {T B : Nat} {a b : World} (h : Below a.heap.size a b) (hB : B ≤ a.heap.size) : Kb T B a b := fun i _ h2 => h.block i (by omega)

set_option maxRecDepth 100000 in
set_option maxHeartbeats 1000000 in
theorem pages_in (d : Nat) (_hd : 1 ≤ d) (y p g np cap wd T B : Nat) (X : Nat → Prop) (f : Nat → Option (List Int)) (W : World) (hBW : B ≤ W.heap.size)
    (J Jx : List (Nat × Value) → World → Prop) (hnp : 0 < np ∧ np ≤ 100) (hwd : 0 < wd ∧ wd ≤ 1000) (hT : T ≠ p ∧ T ≠ g ∧ X T) (hpB : p < B ∧ g < B)
    (hA : AbidesFrom W.heap.size J)
    (hY : ∀ pre x V, J pre V → pre.length < np → YieldAt Fence.wide (d - 1) Try.prog y #[.int .i64 (x.1 : Nat), x.2] V fun e W' =>
      (e = .returned (.bool true) ∧ J (pre ++ [x]) W' ∧ Kb T B V W' ∧ V.heap.size ≤ W'.heap.size) ∨ (e = .returned (.bool false) ∧ Jx (pre ++ [x]) W'))
    (hp : Blk W p 24 #[.slice (some ⟨g, 0, none⟩) np cap])
    (hg : ∀ i, i < np → ∃ v, W.cell? ⟨g, i, none⟩ = some v ∧ PgAt W X v wd (f i)) (hgb : ∀ i b off c, i < np → W.cell? ⟨g, i, none⟩ = some (.slice (some ⟨b, off, none⟩) wd c) → b < B) (h0 : J [] W) :
    CallsIn Fence.wide d Try.prog 50 #[.func (.yield y) #[] #[], .pointer (some ⟨p, 0, none⟩)] W fun e W' => (∃ v, e = .returned v) ∧
      ((∃ ys : List (Nat × Value), (∀ x ∈ ys, x.1 < np ∧ f x.1 ≠ none) ∧ J ys W') ∨ (∃ pre : List (Nat × Value), Jx pre W')) := by
  have HA : Hid (∀ pre w w', J pre w → W.heap.size ≤ w.heap.size → Below w.heap.size w w' → J pre w') := Lib.hid fun pre w w' h _ hb => hA pre w w' none h ⟨hb.os, hb.tape, hb.output, hb.size, fun k hk _ => hb.block k hk⟩ (fun r e => by cases e)
  have en0 : ∀ W : World, (binOp .neq 27 (.slice none 0 0) (.slice none 0 0)).run Try.prog W = .ok (.bool false) W := fun W => neq_nil (P := Try.prog) W _ _ none 0 0 0 0 Try.underlying27
  have en1 : ∀ (W : World) (a : Addr) (n c : Nat), (binOp .neq 27 (.slice (some a) n c) (.slice none 0 0)).run Try.prog W = .ok (.bool true) W := fun W a n c => neq_nil (P := Try.prog) W _ _ (some a) n c 0 0 Try.underlying27
  have cp : W.cell? ⟨p, 0, none⟩ = some (.slice (some ⟨g, 0, none⟩) np cap) := hp.cell 0
  have HY := Lib.hid hY
  have HG := Lib.hid hg
  have HGB := Lib.hid hgb
  clear hA hY hg hgb hp
  refine callsIn_of_wp Try.func50 rfl trivial ?_ rfl
  simp only [Try.ntmps50, List.size_toArray, List.length_cons, List.length_nil, Nat.reduceAdd, Nat.reduceSub, Array.replicate_succ, Array.replicate_zero, List.push_toArray, List.append_toArray, List.nil_append, List.cons_append]
  gi_wp2_with fail
  gi_loopw [7] (fun i wr => ∃ (k : Nat) (pre : List (Nat × Value)), k ≤ np ∧ i = .int .i64 k ∧ pre.length ≤ k ∧ Hid (J pre wr) ∧ Hid (∀ x ∈ pre, x.1 < np ∧ f x.1 ≠ none) ∧ Hid (Kb T B W wr) ∧ Hid (W.heap.size ≤ wr.heap.size)) (fun i _ => np - (intOf i).toNat)
  case atStart => exact ⟨0, [], by omega, rfl, Nat.le_refl _, Lib.hid h0, Lib.hid (fun x hx => by cases hx), Lib.hid (Kb.refl _ _ _), Lib.hid (Nat.le_refl _)⟩
  case round =>
    obtain ⟨k, pre, hk, rfl, hpl, hJ, hP, hK, hS⟩ := hrel
    by_cases hlt : k < np
    · have kl : (k : Int) < (np : Int) := by omega
      have k0 : (0 : Int) ≤ (k : Int) := by omega
      obtain ⟨v, z1, z2⟩ := HG.out k hlt
      have z3 := (World.cell?_of_block (w := W) (w' := wr) (a := ⟨g, k, none⟩) (hK.out g (fun e => hT.2.1 e.symm) hpB.2)).trans z1
      cases hfk : f k with
      | none =>
        rw [hfk] at z2
        have hv : v = .slice none 0 0 := z2
        subst hv
        clear z1 z2
        gi_wp2_with (refine ⟨trivial, ?_⟩)
        refine ⟨fun _ h => (by cases h), ?_⟩
        gi_wp2
        go_roundw
        case rel => exact ⟨k + 1, pre, by omega, by go_num, by omega, hJ, hP, hK, hS⟩
        case measure => simp [intOf]; omega
      | some l =>
        rw [hfk] at z2
        obtain ⟨b, off, cc, rfl, hcc, hl, hr⟩ := z2
        have hbB : b < B := HGB.out k b off cc hlt z1
        have hbT : b ≠ T := fun e => hr.2 b off none rfl (fun e2 => by rw [e2] at hl; simp at hl; omega) (e ▸ hT.2.2)
        have hrw : Rw wr (some ⟨b, off, none⟩) l := ⟨hr.1.1, hr.1.2.1, .inr ⟨b, off, rfl, fun i hi => by
          rcases hr.1.2.2 with h3 | ⟨b', off', e, h3⟩
          · rw [h3] at hi; simp at hi
          · injection e with e
            injection e with e1 e2 e3
            subst e1 e2
            exact (World.cell?_of_block (w := W) (w' := wr) (a := ⟨b, off + i, none⟩) (hK.out b hbT hbB)).trans (h3 i hi)⟩⟩
        have HC := Lib.hid (clone_any wd cc b off l wr hrw hl ⟨hwd.1, by omega⟩)
        have HPn : Hid (∀ z : Value, ∀ x ∈ pre ++ [(k, z)], x.1 < np ∧ f x.1 ≠ none) := Lib.hid (fun z x hx => by
          rcases List.mem_append.1 hx with hx | hx
          · exact hP.out x hx
          · simp at hx
            subst hx
            exact ⟨hlt, by rw [hfk]; simp⟩)
        clear z1 hrw hr hl hbB hbT hfk
        gi_wp2_with (refine ⟨trivial, ?_⟩; gi_at_call 47; refine (callsIn_wide.2 HC.out).mono ?_; rintro e w2 ⟨⟨g2, cc2, rfl, hc2, hg2, hr2⟩, hb2⟩; obtain ⟨fn, tmps, assign, body, hy, hR⟩ := HY.out pre (k, .slice (some ⟨g2, 0, none⟩) wd cc2) w2 (HA.out pre wr w2 hJ.out hS.out hb2) (by omega))
        have HB2 := Lib.hid hb2
        refine hR.mono ?_
        rintro e W3 (⟨rfl, hJ3, hk3, hsz3⟩ | ⟨rfl, hJx3⟩)
        · have HJ3 := Lib.hid hJ3
          have HP3 := Lib.hid (HPn.out (.slice (some ⟨g2, 0, none⟩) wd cc2))
          have HK3 := Lib.hid ((hK.out.trans (Kb.below HB2.out (Nat.le_trans hBW hS.out))).trans hk3)
          have HL3 : Hid ((pre ++ [(k, Value.slice (some ⟨g2, 0, none⟩) wd cc2)]).length ≤ k + 1) := Lib.hid (by simp; omega)
          have HS3 : Hid (W.heap.size ≤ W3.heap.size) := Lib.hid (Nat.le_trans hS.out (Nat.le_trans HB2.out.size hsz3))
          clear hJ3 hk3 hsz3 hr2 hb2
          gi_wp2
          go_roundw
          case rel => exact ⟨k + 1, _, by omega, by go_num, HL3.out, HJ3, HP3, HK3, HS3⟩
          case measure => simp [intOf]; omega
        · have HJ3 := Lib.hid hJx3
          clear hJx3 hr2 hb2
          gi_wp2
          refine bodyPost_ret (results_none rfl _ _ _) rfl ?_
          exact ⟨⟨_, rfl⟩, .inr ⟨_, HJ3.out⟩⟩
    · have kl : ¬ (k : Int) < (np : Int) := by omega
      gi_wp2
      go_end0
      exact ⟨⟨_, rfl⟩, .inl ⟨pre, fun a b h => hP.out (a, b) h, hJ.out⟩⟩

theorem Blk.keep {T B : Nat} {w w' : World} {g : Nat} {t : TypeId} {cs : Array Value} (h : Blk w g t cs) (hk : Kb T B w w') (h1 : g ≠ T) (h2 : g < B) : Blk w' g t cs := (hk g h1 h2).trans h
/-- what the iterator owes -/
theorem pages_stops (d : Nat) (hd : 1 ≤ d) (p g np cap wd T : Nat) (X : Nat → Prop) (f : Nat → Option (List Int)) (w : World)
    (hnp : 0 < np ∧ np ≤ 100) (hwd : 0 < wd ∧ wd ≤ 1000) (hT : T ≠ p ∧ T ≠ g ∧ X T) (hpB : p < w.heap.size ∧ g < w.heap.size)
    (hp : Blk w p 24 #[.slice (some ⟨g, 0, none⟩) np cap])
    (hg : ∀ i, i < np → ∃ v, w.cell? ⟨g, i, none⟩ = some v ∧ PgAt w X v wd (f i)) :
    SeqStopsK Fence.wide d Try.prog 50 #[.pointer (some ⟨p, 0, none⟩)] (fun x : Nat × Value => #[.int .i64 (x.1 : Nat), x.2]) (fun V W' => Kb T w.heap.size V W' ∧ V.heap.size ≤ W'.heap.size)
      (fun ys => ∀ x ∈ ys, x.1 < np ∧ f x.1 ≠ none) (fun _ => True) np w := fun y J Jx W hW hJ _ hY h0 => by
  have hg' : ∀ i, i < np → ∃ v, W.cell? ⟨g, i, none⟩ = some v ∧ PgAt W X v wd (f i) := fun i hi => by
    obtain ⟨v, h1, h2⟩ := hg i hi
    exact ⟨v, (hW.cell (p := ⟨g, i, none⟩) hpB.2).trans h1, h2.kp (F := fun _ => False) (Kp.of_below hW) (fun _ g => g.elim)⟩
  refine (pages_in d hd y p g np cap wd T w.heap.size X f W hW.size J Jx hnp hwd hT hpB hJ (fun pre x V hj hl => ?_) (hp.below hW hpB.1) hg' (fun i b off c hi hc => ?_) h0).mono ?_
  · exact hY pre x V hj hl
  · obtain ⟨v, h1, h2⟩ := hg i hi
    have e := (hW.cell (p := ⟨g, i, none⟩) hpB.2).trans h1
    rw [hc] at e
    injection e with e
    subst e
    cases hf : f i with
    | none =>
      rw [hf] at h2
      have h3 : Value.slice (some ⟨b, off, none⟩) wd c = .slice none 0 0 := h2
      cases h3
    | some l =>
      rw [hf] at h2
      obtain ⟨b', off', c', e, -, hl, hr⟩ := h2
      injection e with e e2 e3
      injection e with e
      injection e with e1 e4 e5
      subst e1
      rcases hr.1.2.2 with h3 | ⟨b2, off2, e, h3⟩
      · rw [h3] at hl; simp at hl; omega
      · injection e with e
        injection e with e1 e2 e3
        subst e1
        exact block_lt_of_cell (h3 0 (by omega))
  · rintro e W' ⟨he, h | ⟨pre, h⟩⟩
    · exact ⟨he, .inl h⟩
    · exact ⟨he, .inr ⟨pre, trivial, h⟩⟩
end Go.Proofs.Ytjpiaanpkpjpcaa
