/-
  Operations' bytes read: the reader that gives up, caught. Nothing of one statement alone stands here.
-/
import Derived.Test.YthngpmiclbbpnaaGreatHistU
import Derived.Defers
import Derived.Recover
import Derived.Laws.Pointers
namespace Go.Proofs.YthngpmiclbbpnaaGreat
open Go.RowKit Crcm Tagm Go.ChangeShapes

theorem assert_up (xT : TypeId) (v : Value) (w : World) : (Instr.typeAssert (.iface 71 v) xT 71 true).run Tryz.prog w = .ok (.tuple #[v, .bool true]) w := by
  simp [Instr.typeAssert, run_underlying Tryz.underlying71, go_sem, Result.andThen]

set_option maxRecDepth 100000 in
set_option maxHeartbeats 2000000 in
theorem rcatch_up (A B : Nat) (x y : Value) (w : World) (hA : w.cell? ⟨A, 0, none⟩ = some x) (hfA : w.frozen? ⟨A, 0, none⟩ = false) (hB : w.cell? ⟨B, 0, none⟩ = some y) (hfB : w.frozen? ⟨B, 0, none⟩ = false) (hAB : A ≠ B) :
    CallsD Tryz.prog 33 #[.pointer (some ⟨A, 0, none⟩), .pointer (some ⟨B, 0, none⟩)] (.panicking [{ v := pv, recovered := false }]) w fun e u' w' =>
      e = .returned (.tuple #[]) ∧ u' = .panicking [{ v := pv, recovered := true }] ∧ w'.cell? ⟨A, 0, none⟩ = some (.slice none 0 0) ∧ w'.cell? ⟨B, 0, none⟩ = some (.int .i64 50) ∧ (∀ S, S ≤ A → S ≤ B → S ≤ w.heap.size → Below S w w') := by
  have ha := assert_up
  have lA := block_lt_of_cell hA
  have lB := block_lt_of_cell hB
  have hb : Below w.heap.size w (w.alloc (.cells #[.int .i64 50] 71)) := (Below.refl _ _).alloc (Nat.le_refl _) _
  have cA := (hb.cell (p := ⟨A, 0, none⟩) lA).trans hA
  have cB := (hb.cell (p := ⟨B, 0, none⟩) lB).trans hB
  have eA := (hb.frozen (p := ⟨A, 0, none⟩) lA).trans hfA
  have eB := (hb.frozen (p := ⟨B, 0, none⟩) lB).trans hfB
  have hG := Blk.new w 71 #[.int .i64 50]
  have cG := hG.cell 0
  simp only [List.getElem?_toArray, List.getElem?_cons_zero] at cG
  have hB0 := Lib.hid hb
  refine callsD_of_wpS Tryz.func33 rfl fun c₀ cs hu => ?_
  simp only [Tryz.ntmps33, List.size_toArray, List.length_cons, List.length_nil, Nat.reduceAdd, Nat.reduceSub, Array.replicate_succ, Array.replicate_zero, List.push_toArray, List.append_toArray, List.nil_append, List.cons_append]
  apply wpS_seq
  apply wpS_region
  simp [wpOpsS, go_sem, recoverD, hu, Exit.thenS, pv]
  refine wpS_of_wp ?_
  go_upto_region 5 with (fail)
  generalize (w.alloc (.cells #[.int .i64 50] 71)) = W at cA cB eA eB hB0 cG ⊢
  have lA2 : A < w.heap.size := lA
  have lB2 : B < w.heap.size := lB
  obtain ⟨G, eG⟩ : ∃ G, w.heap.size = G := ⟨_, rfl⟩
  rw [eG] at lA2 lB2 cG ⊢
  have x1 : (W.setCell ⟨A, 0, none⟩ (.slice none 0 0)).cell? ⟨B, 0, none⟩ = some y := (World.cell?_setCell_other _ _ _ _ (by intro g; injection g; omega)).trans cB
  have x2 : (W.setCell ⟨A, 0, none⟩ (.slice none 0 0)).cell? ⟨G, 0, none⟩ = some (.int .i64 50) := (World.cell?_setCell_other _ _ _ _ (by intro g; injection g; omega)).trans cG
  have hs0 : w.heap.size ≤ W.heap.size := hB0.out.size
  have HE : Hid (((W.setCell ⟨A, 0, none⟩ (.slice none 0 0)).setCell ⟨B, 0, none⟩ (.int .i64 50)).drew.cell? ⟨A, 0, none⟩ = some (.slice none 0 0) ∧ ((W.setCell ⟨A, 0, none⟩ (.slice none 0 0)).setCell ⟨B, 0, none⟩ (.int .i64 50)).drew.cell? ⟨B, 0, none⟩ = some (.int .i64 50) ∧ (∀ S, S ≤ A → S ≤ B → S ≤ w.heap.size → Below S w ((W.setCell ⟨A, 0, none⟩ (.slice none 0 0)).setCell ⟨B, 0, none⟩ (.int .i64 50)).drew)) := Lib.hid
    ⟨(World.cell?_setCell_other _ _ _ _ (by intro g; injection g; omega)).trans (World.cell?_setCell_same _ _ _ cA), World.cell?_setCell_same _ _ _ x1, fun S h1 h2 h3 => (((hB0.out.mono h3).setCell (p := ⟨A, 0, none⟩) h1 _).setCell (p := ⟨B, 0, none⟩) h2 _).drew⟩
  clear hb hG hA hB hfA hfB lA lB eG
  go_region
  all_goals (go_wp2; exact ⟨rfl, _, rfl, .tuple #[], by simp [results, Tryz.results33], rfl, rfl, HE.out⟩)
set_option maxRecDepth 100000 in
set_option maxHeartbeats 2000000 in
theorem rcatch_idle (p q : Addr) (w : World) :
    CallsD Tryz.prog 33 #[.pointer (some p), .pointer (some q)] .returning w fun e u' w' => e = .returned (.tuple #[]) ∧ u' = .returning ∧ w' = w := by
  refine callsD_of_wpS Tryz.func33 rfl fun c₀ cs hu => ?_
  simp only [Tryz.ntmps33, List.size_toArray, List.length_cons, List.length_nil, Nat.reduceAdd, Nat.reduceSub, Array.replicate_succ, Array.replicate_zero, List.push_toArray, List.append_toArray, List.nil_append, List.cons_append]
  apply wpS_seq
  apply wpS_region
  simp [wpOpsS, go_sem, recoverD, hu, Exit.thenS]
  refine wpS_of_wp ?_
  go_wp2
  cases c₀
  simp_all [bodyPostS, results, Tryz.results33]

theorem Rt.mono {w : World} {B B' : Nat} {v : Value} {L : List Ho} (h : Rt w B v L) (hb : B' ≤ B) : Rt w B' v L := by
  obtain ⟨xs, h1, ⟨h2, h3⟩, h4⟩ := h
  refine ⟨xs, h1, ⟨h2, ?_⟩, fun x hx => ⟨(h4 x hx).1, (h4 x hx).2.mono hb⟩⟩
  rcases h3 with h3 | ⟨g, cap, cur, e, hg, r⟩
  · exact .inl h3
  · exact .inr ⟨g, cap, cur, e, Nat.le_trans hb hg, r⟩
/-- what reading operations without their sum comes to -/
def RedP (w : World) (l : List Int) (e : Ending) (w' : World) : Prop :=
  (∀ L, allB l = some L → ∃ v, e = .returned (.tuple #[v, .int .i64 0]) ∧ Rt w' w.heap.size v L) ∧ (allB l = none → e = .returned (.tuple #[.slice none 0 0, .int .i64 50])) ∧ Below w.heap.size w w'
theorem RedP.no {w w' : World} {l : List Int} (h : allB l = none) (hk : Below w.heap.size w w') : RedP w l (.returned (.tuple #[.slice none 0 0, .int .i64 50])) w' := ⟨fun L g => (by rw [h] at g; cases g), fun _ => rfl, hk⟩
theorem RedP.yes {w w' : World} {l : List Int} {L : List Ho} {v : Value} (h : allB l = some L) (hr : Rt w' w.heap.size v L) (hk : Below w.heap.size w w') : RedP w l (.returned (.tuple #[v, .int .i64 0])) w' :=
  ⟨fun L' g => by obtain rfl := Option.some.inj (h.symm.trans g); exact ⟨v, rfl, hr⟩, fun g => (by rw [h] at g; cases g), hk⟩

set_option maxRecDepth 100000 in
set_option maxHeartbeats 2000000 in
theorem hred_any (a : Option Addr) (n c : Nat) (l : List Int) (w : World) (hr : Rw w a l) (hl : l.length = n) (hc : n ≤ c) (hm : c ≤ maxLen) : Calls Tryz.prog 20 #[.slice a n c] w (RedP w l) := by
  have hmf : ∀ (fn : Fn) (first cap : Array Value) (w : World), (Instr.makeFunc fn first cap).run Tryz.prog w = .ok (.func fn first cap) w := fun _ _ _ _ => rfl
  obtain ⟨G, hG⟩ : ∃ G, w.heap.size = G := ⟨_, rfl⟩
  have hb1 := (Below.refl w.heap.size w).alloc (Nat.le_refl _) (.cells #[.slice none 0 0] 29)
  have hb2 := hb1.alloc hb1.size (.cells #[.int .i64 0] 26)
  have hb3 := hb2.alloc hb2.size (.cells #[.slice a n c] 74)
  have HRD : Hid (Rd (((w.alloc (.cells #[.slice none 0 0] 29)).alloc (.cells #[.int .i64 0] 26)).alloc (.cells #[.slice a n c] 74)) (G + 2) l) := Lib.hid (by
    refine ⟨a, c, ?_, by omega, hm, hr.below hb3, fun b off s e hl0 => ?_⟩
    · have := Blk.new ((w.alloc (.cells #[.slice none 0 0] 29)).alloc (.cells #[.int .i64 0] 26)) 74 #[.slice a n c]
      rw [hl]
      simpa [hG] using this
    · rcases hr.2.2 with h0 | ⟨b', off', e', h3⟩
      · exact absurd h0 hl0
      · rw [e] at e'
        injection e' with e'
        injection e' with e1 e2
        have := block_lt_of_cell (h3 0 (by rcases l with _ | ⟨x, r⟩; exact absurd rfl hl0; simp))
        have h8 : b' < w.heap.size := this
        omega)
  go_enter_defers Tryz.func20, Tryz.ntmps20
  go_upto_region 3 with (fail)
  have HB3 := Lib.hid hb3
  have hc1 : Hid (Blk (((w.alloc (.cells #[.slice none 0 0] 29)).alloc (.cells #[.int .i64 0] 26)).alloc (.cells #[.slice a n c] 74)) G 29 #[.slice none 0 0]) := Lib.hid (by rw [← hG]; exact ((Blk.new w 29 #[.slice none 0 0]).alloc _).alloc _)
  have hc2 : Hid (Blk (((w.alloc (.cells #[.slice none 0 0] 29)).alloc (.cells #[.int .i64 0] 26)).alloc (.cells #[.slice a n c] 74)) (G + 1) 26 #[.int .i64 0]) := Lib.hid (by
    have := (Blk.new (w.alloc (.cells #[.slice none 0 0] 29)) 26 #[.int .i64 0]).alloc (.cells #[.slice a n c] 74)
    simpa [hG] using this)
  have HA := Lib.hid (hall_any HRD.out)
  generalize (((w.alloc (.cells #[.slice none 0 0] 29)).alloc (.cells #[.int .i64 0] 26)).alloc (.cells #[.slice a n c] 74)) = W at HRD HA HB3 hc1 hc2 ⊢
  clear hb1 hb2 hb3 hr hl hc hm
  go_wp2_with fail
  refine HA.out.mono ?_
  rintro e w1 hP
  cases ha : allB l with
  | none =>
    obtain rfl := hP.2.1 ha
    have hk := hP.2.2
    have k1 : Blk w1 G 29 #[.slice none 0 0] := hc1.out.ko hk (by omega)
    have k2 : Blk w1 (G + 1) 26 #[.int .i64 0] := hc2.out.ko hk (by omega)
    have hbw : Below w.heap.size w w1 := HB3.out.trans (hk.below (by have := HB3.out.size; omega) (by omega))
    unfold pE
    refine leaves_cons (f := 33) (args := #[.pointer (some ⟨G, 0, none⟩), .pointer (some ⟨G + 1, 0, none⟩)]) (by simp) (by simp [go_sem]) ?_
    refine (rcatch_up G (G + 1) _ _ w1 (k1.cell 0) (k1.frozen 0) (k2.cell 0) (k2.frozen 0) (by omega)).mono ?_
    rintro e u' w2 ⟨rfl, rfl, z1, z2, hbe⟩
    have hRP := RedP.no ha (hbw.trans (hbe _ (by omega) (by omega) hbw.size))
    simp [Leaves, settle, results, Tryz.results20, go_sem, z1, z2]
    exact hRP
  | some L =>
    obtain ⟨v, rfl, hrt⟩ := hP.1 L ha
    have hk := hP.2.2
    obtain ⟨a2, c2, rfl, -⟩ := hrt.hr
    have k1 : Blk w1 G 29 #[.slice none 0 0] := hc1.out.ko hk (by omega)
    have k2 : Blk w1 (G + 1) 26 #[.int .i64 0] := hc2.out.ko hk (by omega)
    have hbw : Below w.heap.size w w1 := HB3.out.trans (hk.below (by have := HB3.out.size; omega) (by omega))
    have z1 := k1.cell 0
    have f1 := k1.frozen 0
    have k3 := k2.far (p := ⟨G, 0, none⟩) (by show G + 1 ≠ G; omega) (.slice a2 L.length c2)
    have z2 := k3.cell 0
    have f2 := k3.frozen 0
    have k4 := (k1.put 0 (.slice a2 L.length c2)).far (p := ⟨G + 1, 0, none⟩) (by show G ≠ G + 1; omega) (.int .i64 0)
    have k5 := k3.put 0 (.int .i64 0)
    simp only [List.getElem?_toArray, List.getElem?_cons_zero] at z1 z2
    go_wp2_with fail
    refine leaves_cons (f := 33) (args := #[.pointer (some ⟨G, 0, none⟩), .pointer (some ⟨G + 1, 0, none⟩)]) (by simp) (by simp [go_sem]) ?_
    refine (rcatch_idle ⟨G, 0, none⟩ ⟨G + 1, 0, none⟩ _).mono ?_
    rintro e u' w2 ⟨rfl, rfl, rfl⟩
    have y1 := k4.cell 0
    have y2 := k5.cell 0
    have hRP : RedP w l (.returned (.tuple #[.slice a2 L.length c2, .int .i64 0])) ((w1.setCell ⟨G, 0, none⟩ (.slice a2 L.length c2)).setCell ⟨G + 1, 0, none⟩ (.int .i64 0)) := by
      refine RedP.yes ha ((hrt.mono (B' := G + 2) (by have := HRD.out.lt; omega)).keep (fun b h1 _ => ?_) |>.mono (by omega)) ((hbw.setCell (p := ⟨G, 0, none⟩) (by show w.heap.size ≤ G; omega) _).setCell (p := ⟨G + 1, 0, none⟩) (by show w.heap.size ≤ G + 1; omega) _)
      rw [Below.heap_setCell _ ⟨G + 1, 0, none⟩ _ b (by show b ≠ G + 1; omega), Below.heap_setCell _ ⟨G, 0, none⟩ _ b (by show b ≠ G; omega)]
    simp at y1 y2
    simp [Leaves, settle, results, Tryz.results20, go_sem, y1, y2]
    exact hRP

end Go.Proofs.YthngpmiclbbpnaaGreat
