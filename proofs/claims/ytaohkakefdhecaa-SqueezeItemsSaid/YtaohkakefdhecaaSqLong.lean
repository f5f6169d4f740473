/-
  The longest copy at a place: the program's longest. Nothing of one statement alone stands here.
-/
import Derived.Test.YtaohkakefdhecaaSqLook
import Derived.RangeFuncWrites
import Derived.IntWalk
import Derived.Deep.DeepCutAuto
import Derived.Deep.CutBlock
import Derived.Deep.CutRange
namespace Go.Proofs.Ytaohkakefdhecaa
open Go.RowKit Go.Shelf Crcm Sqm Tagm Inom Roomm Go.ChangeShapes

attribute [local go_sem] Oper.semAt_some

/-- a block of three, written over -/
def it3 (W : World) (g : Nat) (x y z : Value) : World := ((W.setCell ⟨g, 0, none⟩ x).setCell ⟨g, 1, none⟩ y).setCell ⟨g, 2, none⟩ z
theorem it3_blk {W : World} {g : Nat} {t : TypeId} {x y z x' y' z' : Value} (h : Blk W g t #[x, y, z]) : Blk (it3 W g x' y' z') g t #[x', y', z'] := by
  have := ((h.put 0 x').put 1 y').put 2 z'
  simpa [it3] using this
theorem it3_far {W : World} {g g' : Nat} {t : TypeId} {cs : Array Value} {x y z : Value} (h : Blk W g' t cs) (hg : g' ≠ g) : Blk (it3 W g x y z) g' t cs :=
  ((h.far (p := ⟨g, 0, none⟩) hg _).far (p := ⟨g, 1, none⟩) hg _).far (p := ⟨g, 2, none⟩) hg _
theorem it3_below {w W : World} {B g : Nat} {x y z : Value} (h : Below B w W) (hg : B ≤ g) : Below B w (it3 W g x y z) :=
  ((h.setCell (p := ⟨g, 0, none⟩) hg _).setCell (p := ⟨g, 1, none⟩) hg _).setCell (p := ⟨g, 2, none⟩) hg _
theorem it3_keeps (W : World) (g : Nat) (x y z : Value) : KeepsOthers W (it3 W g x y z) := ((KeepsOthers.setCell _ _ _).trans (KeepsOthers.setCell _ _ _)).trans (KeepsOthers.setCell _ _ _)
theorem it3_other {W : World} {g r : Nat} {x y z : Value} (h : r ≠ g) : (it3 W g x y z).heap[r]? = W.heap[r]? :=
  (Below.heap_setCell _ ⟨g, 2, none⟩ _ _ h).trans ((Below.heap_setCell _ ⟨g, 1, none⟩ _ _ h).trans (Below.heap_setCell _ ⟨g, 0, none⟩ _ _ h))
theorem it3_size {W : World} {g : Nat} {x y z : Value} : (it3 W g x y z).heap.size = W.heap.size := by simp [it3, World.setCell]

/-- a row of places, as numbers -/
def rwI (l : List Int) (k : Nat) : List Int := (rowOf l (thr l k) k).map (fun p : Nat => (p : Int))
theorem rwI_get (l : List Int) (k i : Nat) : (rwI l k).getD i 0 = (((rowOf l (thr l k) k).getD i 0 : Nat) : Int) := by
  unfold rwI
  rw [List.getD_eq_getElem?_getD, List.getD_eq_getElem?_getD, List.getElem?_map]
  cases (rowOf l (thr l k) k)[i]? <;> rfl

/-- the block of the best one so far, and what else there is -/
structure LSt (S : Nat) (w : World) (l : List Int) (k : Nat) (a : Option Addr) (m c M j : Nat) (W : World) : Prop where
  near : ∀ i, i < j → k - (rowOf l (thr l k) k).getD ((rowOf l (thr l k) k).length - 1 - i) 0 ≤ 4096
  best : Blk W (S + 4) 43 #[.int .i64 ((lg l k (rowOf l (thr l k) k) j).1 : Int), .int .i64 ((lg l k (rowOf l (thr l k) k) j).2 : Int), .slice none 0 0]
  b0 : Blk W S 22 #[.slice a m c]
  b1 : Blk W (S + 1) 3 #[.int .i64 (k : Int)]
  b2 : Blk W (S + 2) 43 #[.int .i64 0, .int .i64 0, .slice none 0 0]
  b3 : Blk W (S + 3) 3 #[.int .i64 (M : Int)]
  bel : Below S w W
theorem LSt.on {S : Nat} {w : World} {l : List Int} {k : Nat} {a : Option Addr} {m c M : Nat} (hS : w.heap.size = S) : OnOwn (S + 6) (fun _ _ => False) (LSt S w l k a m c M) := fun s A C row ⟨h1, h2, h3, h4, h5, h6, h7⟩ hg hr =>
  ⟨h1, onOwn_blk (β := Unit) (T := fun _ _ => False) (S + 4) _ (fun _ => _) (fun _ _ _ h => h) () A C row h2 hg hr, onOwn_blk (β := Unit) (T := fun _ _ => False) S _ (fun _ => _) (fun _ _ _ h => h) () A C row h3 hg hr,
    onOwn_blk (β := Unit) (T := fun _ _ => False) (S + 1) _ (fun _ => _) (fun _ _ _ h => h) () A C row h4 hg hr, onOwn_blk (β := Unit) (T := fun _ _ => False) (S + 2) _ (fun _ => _) (fun _ _ _ h => h) () A C row h5 hg hr,
    onOwn_blk (β := Unit) (T := fun _ _ => False) (S + 3) _ (fun _ => _) (fun _ _ _ h => h) () A C row h6 hg hr, onOwn_below (β := Unit) (T := fun _ _ => False) (Nat.le_of_eq hS.symm) (by omega) (fun _ _ h => h.elim) () A C row h7 hg hr⟩
/-- where it is left early -/
structure LEx (S : Nat) (w : World) (l : List Int) (k : Nat) (W : World) : Prop where
  best : Blk W (S + 4) 43 #[.int .i64 (cpn l k : Int), .int .i64 (cpd l k : Int), .slice none 0 0]
  b2 : Blk W (S + 2) 43 #[.int .i64 0, .int .i64 0, .slice none 0 0]
  bel : Below S w W
theorem LEx.on {S : Nat} {w : World} {l : List Int} {k : Nat} (hS : w.heap.size = S) : OnOwn (S + 6) (fun _ _ => False) (fun (_ : Nat) W => LEx S w l k W) := fun s A C row ⟨h2, h5, h7⟩ hg hr =>
  ⟨onOwn_blk (β := Unit) (T := fun _ _ => False) (S + 4) _ (fun _ => _) (fun _ _ _ h => h) () A C row h2 hg hr, onOwn_blk (β := Unit) (T := fun _ _ => False) (S + 2) _ (fun _ => _) (fun _ _ _ h => h) () A C row h5 hg hr,
    onOwn_below (β := Unit) (T := fun _ _ => False) (Nat.le_of_eq hS.symm) (by omega) (fun _ _ h => h.elim) () A C row h7 hg hr⟩

set_option maxRecDepth 100000 in
set_option maxHeartbeats 2000000 in
theorem longest_any (b off m c k n rc : Nat) (ra : Option Addr) (l : List Int) (w : World) (hr : Rw w (some ⟨b, off, none⟩) l) (hl : l.length = m) (hm : (m : Int) ≤ 4611686018427380000) (hk : k + 3 ≤ m)
    (hri : Ri w ra (rwI l k)) (hn : (rwI l k).length = n) (hnc : n ≤ rc) :
    Calls Try.prog 29 #[.slice (some ⟨b, off, none⟩) m c, .int .i64 (k : Int), .slice ra n rc] w fun e w' => e = .returned (.agg #[.int .i64 (cpn l k : Int), .int .i64 (cpd l k : Int), .slice none 0 0]) ∧ Below w.heap.size w w' := by
  have HO := Lib.hid (fun w => (callsIn_wide (n := 5)).1 (backwardOf_in 5 ra n rc w))
  obtain ⟨M, hM⟩ : ∃ M, mx l k = M := ⟨_, rfl⟩
  have hmin : min (130 : Int) ((m : Int) - (k : Int)) = (M : Int) := by unfold mx at hM; omega
  have hM3 : 3 ≤ M := by unfold mx at hM; omega
  have hkM : k + M ≤ m := by unfold mx at hM; omega
  have hkm : (k : Int) ≤ (m : Int) := by omega
  have HM := Lib.hid hM
  have HL := Lib.hid hl
  have HR := Lib.hid hr
  have HRI := Lib.hid hri
  have HN := Lib.hid hn
  clear hl hr hri hn hM
  refine (callsIn_wide (n := 5)).1 ?_
  refine callsIn_of_wp_marks Try.func29 rfl trivial ?_ rfl
  simp only [Try.ntmps29, List.size_toArray, List.length_cons, List.length_nil, Nat.reduceAdd, Nat.reduceSub, Array.replicate_succ, Array.replicate_zero, List.push_toArray, List.append_toArray, List.nil_append, List.cons_append]
  refine wpIn_wide.2 ?_
  go_upto_region 1 with (fail)
  go_cut [7] from 12 to 16 (fun s7 wx => s7 = .pointer (some ⟨w.heap.size + 1 + 1 + 1, 0, none⟩) ∧ wx = (((w.alloc (.cells #[.slice (some ⟨b, off, none⟩) m c] 22)).alloc (.cells #[.int .i64 (k : Int)] 3)).alloc (.cells #[.int .i64 0, .int .i64 0, .slice none 0 0] 43)).alloc (.cells #[.int .i64 (M : Int)] 3))
  case first =>
    by_cases h130 : (m : Int) - (k : Int) < 130
    · go_wp2
      go_meet
      exact ⟨rfl, by rw [show (m : Int) - (k : Int) = (M : Int) by omega]⟩
    · go_wp2
      go_meet
      exact ⟨rfl, by rw [show (130 : Int) = (M : Int) by omega]⟩
  case rest =>
    obtain ⟨rfl, rfl⟩ := hcut
    go_wp2_with fail
    refine (HO.out _).mono ?_
    rintro e w' ⟨rfl, rfl⟩
    go_wp2_with fail
    obtain ⟨S, hS⟩ : ∃ S, w.heap.size = S := ⟨_, rfl⟩
    obtain ⟨W4, hW4⟩ : ∃ W4, (((((w.alloc (.cells #[.slice (some ⟨b, off, none⟩) m c] 22)).alloc (.cells #[.int .i64 (k : Int)] 3)).alloc (.cells #[.int .i64 0, .int .i64 0, .slice none 0 0] 43)).alloc (.cells #[.int .i64 (M : Int)] 3)).alloc (.cells #[.int .i64 0, .int .i64 0, .slice none 0 0] 43)).alloc (.cells #[.slice ra n rc] 58) = W4 := ⟨_, rfl⟩
    have hz4 : W4.heap.size = S + 6 := by rw [← hW4]; simp; omega
    have hB4 : Below w.heap.size w W4 := by rw [← hW4]; exact ((((((Below.refl _ w).alloc (Nat.le_refl _) _).alloc (by simp) _).alloc (by simp; omega) _).alloc (by simp; omega) _).alloc (by simp; omega) _).alloc (by simp; omega) _
    have b0 : Blk W4 S 22 #[.slice (some ⟨b, off, none⟩) m c] := by rw [← hW4, ← hS]; exact (((((Blk.new _ _ _).alloc _).alloc _).alloc _).alloc _).alloc _
    have b1 : Blk W4 (S + 1) 3 #[.int .i64 (k : Int)] := by
      have := ((((Blk.new (w.alloc (.cells #[.slice (some ⟨b, off, none⟩) m c] 22)) 3 #[.int .i64 (k : Int)]).alloc (.cells #[.int .i64 0, .int .i64 0, .slice none 0 0] 43)).alloc (.cells #[.int .i64 (M : Int)] 3)).alloc (.cells #[.int .i64 0, .int .i64 0, .slice none 0 0] 43)).alloc (.cells #[.slice ra n rc] 58)
      rw [World.size_alloc, hS, hW4] at this; exact this
    have b2 : Blk W4 (S + 2) 43 #[.int .i64 0, .int .i64 0, .slice none 0 0] := by
      have := (((Blk.new ((w.alloc (.cells #[.slice (some ⟨b, off, none⟩) m c] 22)).alloc (.cells #[.int .i64 (k : Int)] 3)) 43 #[.int .i64 0, .int .i64 0, .slice none 0 0]).alloc (.cells #[.int .i64 (M : Int)] 3)).alloc (.cells #[.int .i64 0, .int .i64 0, .slice none 0 0] 43)).alloc (.cells #[.slice ra n rc] 58)
      rw [World.size_alloc, World.size_alloc, hS, hW4] at this; exact this
    have b3 : Blk W4 (S + 3) 3 #[.int .i64 (M : Int)] := by
      have := ((Blk.new (((w.alloc (.cells #[.slice (some ⟨b, off, none⟩) m c] 22)).alloc (.cells #[.int .i64 (k : Int)] 3)).alloc (.cells #[.int .i64 0, .int .i64 0, .slice none 0 0] 43)) 3 #[.int .i64 (M : Int)]).alloc (.cells #[.int .i64 0, .int .i64 0, .slice none 0 0] 43)).alloc (.cells #[.slice ra n rc] 58)
      rw [World.size_alloc, World.size_alloc, World.size_alloc, hS, hW4] at this; exact this
    have b4 : Blk W4 (S + 4) 43 #[.int .i64 0, .int .i64 0, .slice none 0 0] := by
      have := (Blk.new ((((w.alloc (.cells #[.slice (some ⟨b, off, none⟩) m c] 22)).alloc (.cells #[.int .i64 (k : Int)] 3)).alloc (.cells #[.int .i64 0, .int .i64 0, .slice none 0 0] 43)).alloc (.cells #[.int .i64 (M : Int)] 3)) 43 #[.int .i64 0, .int .i64 0, .slice none 0 0]).alloc (.cells #[.slice ra n rc] 58)
      rw [World.size_alloc, World.size_alloc, World.size_alloc, World.size_alloc, hS, hW4] at this; exact this
    have bN : Blk W4 (S + 5) 58 #[.slice ra n rc] := by
      have := Blk.new (((((w.alloc (.cells #[.slice (some ⟨b, off, none⟩) m c] 22)).alloc (.cells #[.int .i64 (k : Int)] 3)).alloc (.cells #[.int .i64 0, .int .i64 0, .slice none 0 0] 43)).alloc (.cells #[.int .i64 (M : Int)] 3)).alloc (.cells #[.int .i64 0, .int .i64 0, .slice none 0 0] 43)) 58 #[.slice ra n rc]
      rw [World.size_alloc, World.size_alloc, World.size_alloc, World.size_alloc, World.size_alloc, hS, hW4] at this; exact this
    have r4 := HRI.out.below hB4
    obtain ⟨g, hgb, hgl, hgS⟩ : ∃ g, (rwI l k = [] ∨ ∃ o, ra = some ⟨g, o, none⟩) ∧ g < W4.heap.size ∧ g < S + 1 := by
      by_cases e : rwI l k = []
      · exact ⟨S, .inl e, by omega, by omega⟩
      · obtain ⟨g, o, rfl, hcl⟩ := HRI.out.at (j := 0) (List.length_pos_iff.2 e)
        have hlt : g < w.heap.size := block_lt_of_cell hcl
        exact ⟨g, .inr ⟨o, rfl⟩, by omega, by omega⟩
    rw [hS, hW4]
    have hnk : n ≤ k := by
      have h1 := HN.out
      unfold rwI at h1
      rw [List.length_map] at h1
      have : ∀ q, (rowOf l (thr l k) q).length ≤ q := by
        intro q
        induction q with
        | zero => simp [rowOf]
        | succ q ih => rw [row_succ]; split
                       · rw [List.length_append]; simp; omega
                       · omega
      have := this k
      omega
    have HSeq := Lib.hid (backward_in 4 (by omega) (S + 5) g n rc ra (rwI l k) HN.out hnc (by omega) W4 bN r4 hgb hgl)
    have HRl := Lib.hid (fun (W : World) (h : Below S w W) => HR.out.below (by rw [hS]; exact h))
    have HSz := Lib.hid hS
    have HB4 : Hid (Below S w W4) := Lib.hid (hS ▸ hB4)
    have HNL : Hid ((rowOf l (thr l k) k).length = n) := Lib.hid (by have := HN.out; unfold rwI at this; rwa [List.length_map] at this)
    have HL3 : Hid (k + 3 ≤ l.length) := Lib.hid (by have := HL.out; omega)
    clear r4 hgl hW4 hB4 hgb hS
    refine (wpIn_wide (n := 5)).1 ?_
    refine rangeFunc_at rfl (by omega) (gf := 36) (lb := #[.pointer (some ⟨S + 1 + 1 + 1 + 1 + 1, 0, none⟩)]) rfl trivial (enters_of Try.func36 (by kernel_rfl) rfl)
      HSeq.out rfl (fun _ r e => e.elim) Kb2.trans (fun W o' hy => ⟨World.putObj_heap_other (by omega), World.putObj_heap_other (by omega), by simp⟩) (Below.refl _ _) (fun _ => rfl)
      (LSt S w l k (some ⟨b, off, none⟩) m c M) (fun cc _ W => cc = .exit 0 ∧ LEx S w l k W)
      (by rw [hz4]; exact LSt.on HSz.out) (fun cc => by rw [hz4]; exact (onOwn_pure _ _ _).and (LEx.on HSz.out))
      ⟨fun i hi => by omega, b4, b0, b1, b2, b3, HB4.out⟩
      (fun j a' _ => a' = { tmps := #[.slice (some ⟨b, off, none⟩) m c, .int .i64 (k : Int), .slice ra n rc, .pointer (some ⟨S, 0, none⟩), .pointer (some ⟨S + 1, 0, none⟩), undef, .pointer (some ⟨S + 1 + 1, 0, none⟩), .pointer (some ⟨S + 1 + 1 + 1, 0, none⟩), .pointer (some ⟨S + 1 + 1 + 1 + 1, 0, none⟩), undef, .int .i64 ((rwI l k).getD (n - 1 - j) 0), undef, u12, u13, u14, u15, u16, .slice ra n rc, .func (.func 36) #[] #[.pointer (some ⟨S + 1 + 1 + 1 + 1 + 1, 0, none⟩)], .int .i64 ((n : Int) - 1 - (j : Int)), .int .i64 ((rwI l k).getD (n - 1 - j) 0), undef, undef, undef, undef, undef, undef, undef, undef, undef, undef, undef, undef, undef, undef, undef, undef, undef, undef, undef, undef, undef, undef, undef, undef, undef], defers := [] })
      (fun j a' _ A C row h _ _ => h) ?assign ?body ?done ?stop
    case assign =>
      rintro y j W K hzW hjN hst hK
      gi_wp2
      exact hK _ _ (KeepsFrom.refl _ _) ⟨rfl, rfl, Nat.le_refl _⟩ hst rfl
    case body =>
      rintro y j a' W hy hzW hrec hjN hst rfl
      rw [hz4] at hzW hy
      have HStp := Lib.hid hst
      obtain ⟨hnear, hbest, h0, h1, h2, h3, hbel⟩ := hst
      obtain ⟨p, hp⟩ : ∃ p, (rowOf l (thr l k) k).getD (n - 1 - j) 0 = p := ⟨_, rfl⟩
      have hpI : (rwI l k).getD (n - 1 - j) 0 = (p : Int) := by rw [rwI_get, hp]
      have hpk : p < k := by rw [← hp]; exact row_ltQ (by rw [HNL.out]; omega)
      rw [hpI]
      have HP := Lib.hid hp
      have HJN := Lib.hid hjN
      have c0 := h0.cell 0
      have c1 := h1.cell 0
      have c3 : W.cell? ⟨S + 1 + 1 + 1, 0, none⟩ = some (.int .i64 (M : Int)) := h3.cell 0
      obtain ⟨L1, hL1⟩ : ∃ L1, (lg l k (rowOf l (thr l k) k) j).1 = L1 := ⟨_, rfl⟩
      obtain ⟨L2, hL2⟩ : ∃ L2, (lg l k (rowOf l (thr l k) k) j).2 = L2 := ⟨_, rfl⟩
      rw [hL1, hL2] at hbest
      have HL1 := Lib.hid hL1
      have HL2 := Lib.hid hL2
      have d0 : W.cell? ⟨S + 1 + 1 + 1 + 1, 0, none⟩ = some (.int .i64 (L1 : Int)) := hbest.cell 0
      have d1 : W.cell? ⟨S + 1 + 1 + 1 + 1, 1, none⟩ = some (.int .i64 (L2 : Int)) := hbest.cell 1
      have d2 : W.cell? ⟨S + 1 + 1 + 1 + 1, 2, none⟩ = some (.slice none 0 0) := hbest.cell 2
      have hfar := lg_far (l := l) (k := k) (j := j) HL3.out (by rw [HNL.out]; omega) hnear
      rw [HNL.out, hp] at hfar
      have hfull := lg_full (l := l) (k := k) (j := j) HL3.out (by rw [HNL.out]; omega)
      rw [HNL.out, hp, hL1, HM.out] at hfull
      have hpr : lg l k (rowOf l (thr l k) k) j = (L1, L2) := by rw [← hL1, ← hL2]
      rw [hpr] at hfar hfull
      have HFar := Lib.hid hfar
      have HFull := Lib.hid hfull
      clear hp hpI hjN hnear hL1 hL2 hfar hfull hpr
      by_cases hf : 4096 < k - p
      · have q1 : (4096 : Int) < (k : Int) - (p : Int) := by omega
        have HE : Hid (LEx S w l k W) := Lib.hid (by
          have h := HFar.out (fun _ => hf)
          injection h with e1 e2
          exact ⟨by rw [← e1, ← e2]; exact hbest, h2, hbel⟩)
        clear hf
        gi_wp2
        try rw [hz4]
        exact ⟨KeepsFrom.refl _ _, rfl, HE.out⟩
      · have q1 : ¬ (4096 : Int) < (k : Int) - (p : Int) := by omega
        by_cases hM1 : L1 = M
        · have q2 : ((L1 : Int) == (M : Int)) = true := by simp [hM1]
          have HE : Hid (LEx S w l k W) := Lib.hid (by
            have h := HFull.out (by omega) hM1
            injection h with e1 e2
            exact ⟨by rw [← e1, ← e2]; exact hbest, h2, hbel⟩)
          clear hM1 hf
          gi_wp2
          try rw [hz4]
          exact ⟨KeepsFrom.refl _ _, rfl, HE.out⟩
        · have q2 : ((L1 : Int) == (M : Int)) = false := by simp; omega
          have HC := Lib.hid (alike_any b off m c p k M l W (HRl.out W hbel) HL.out hm (by omega) hkM)
          obtain ⟨A, hA⟩ : ∃ A, al l p k M = A := ⟨_, rfl⟩
          rw [hA] at HC
          have hAM : A ≤ M := by rw [← hA]; exact al_le _ _ _ _
          have HLg : Hid (lg l k (rowOf l (thr l k) k) (j + 1) = if L1 < A then (A, k - p) else (L1, L2)) := Lib.hid (by
            rw [lg, HNL.out, HP.out, HM.out, hA, HL1.out]
            by_cases h : L1 < A
            · rw [if_pos h, if_pos h]
            · rw [if_neg h, if_neg h, ← HL1.out, ← HL2.out])
          have HNr : Hid (∀ i, i < j + 1 → k - (rowOf l (thr l k) k).getD ((rowOf l (thr l k) k).length - 1 - i) 0 ≤ 4096) := Lib.hid (fun i hi => by
            rcases (by omega : i = j ∨ i < j) with rfl | h
            · rw [HNL.out, HP.out]; omega
            · exact HStp.out.near i h)
          clear hM1 hf hA
          by_cases hlt : L1 < A
          · have q3 : (L1 : Int) < (A : Int) := by omega
            have HLg2 : Hid ((lg l k (rowOf l (thr l k) k) (j + 1)).1 = A ∧ (lg l k (rowOf l (thr l k) k) (j + 1)).2 = k - p) := Lib.hid (by rw [HLg.out, if_pos hlt]; exact ⟨rfl, rfl⟩)
            clear hlt HLg
            gi_wp2_with (refine ⟨trivial, ?_⟩; gi_at_call 34; refine (CallsIn.inRound y (callsIn_wide.2 HC.out)).mono ?_; rintro e w2 ⟨rfl, hb2⟩; have g1 : w2.cell? ⟨S + 1, 0, none⟩ = some (.int .i64 (k : Int)) := (h1.below hb2 h1.lt).cell 0; have zb := hbest.below hb2 hbest.lt; have g4 : w2.cell? ⟨S + 1 + 1 + 1 + 1, 0, none⟩ = some (.int .i64 (L1 : Int)) := zb.cell 0; have g5 : w2.cell? ⟨S + 1 + 1 + 1 + 1, 1, none⟩ = some (.int .i64 (L2 : Int)) := zb.cell 1; have g6 : w2.cell? ⟨S + 1 + 1 + 1 + 1, 2, none⟩ = some (.slice none 0 0) := zb.cell 2; have f4 : w2.frozen? ⟨S + 1 + 1 + 1 + 1, 0, none⟩ = false := zb.frozen 0; have f5 : w2.frozen? ⟨S + 1 + 1 + 1 + 1, 1, none⟩ = false := zb.frozen 1; have f6 : w2.frozen? ⟨S + 1 + 1 + 1 + 1, 2, none⟩ = false := zb.frozen 2)
            try rw [hz4]
            have e1 : (k : Int) - (p : Int) = ((k - p : Nat) : Int) := by omega
            rw [e1]
            show KeepsFrom (S + 6) W (it3 w2 (S + 4) (.int .i64 (A : Int)) (.int .i64 ((k - p : Nat) : Int)) (.slice none 0 0)) ∧ Kb2 (S + 5) g W (it3 w2 (S + 4) (.int .i64 (A : Int)) (.int .i64 ((k - p : Nat) : Int)) (.slice none 0 0)) ∧ LSt S w l k (some ⟨b, off, none⟩) m c M (j + 1) (it3 w2 (S + 4) (.int .i64 (A : Int)) (.int .i64 ((k - p : Nat) : Int)) (.slice none 0 0))
            refine ⟨((keeps_below hb2).trans (it3_keeps _ _ _ _ _)).from _, ⟨(it3_other (by omega)).trans (hb2.block _ (by omega)), (it3_other (by omega)).trans (hb2.block _ (by omega)), by rw [it3_size]; exact hb2.size⟩, ⟨HNr.out, ?_, it3_far (h0.below hb2 h0.lt) (by omega), it3_far (h1.below hb2 h1.lt) (by omega), it3_far (h2.below hb2 h2.lt) (by omega), it3_far (h3.below hb2 h3.lt) (by omega), it3_below (hbel.trans (hb2.mono (by have := hbel.size; omega))) (by omega)⟩⟩
            rw [HLg2.out.1, HLg2.out.2]
            exact it3_blk zb
          · have q3 : ¬ (L1 : Int) < (A : Int) := by omega
            have HLg2 : Hid ((lg l k (rowOf l (thr l k) k) (j + 1)).1 = L1 ∧ (lg l k (rowOf l (thr l k) k) (j + 1)).2 = L2) := Lib.hid (by rw [HLg.out, if_neg hlt]; exact ⟨rfl, rfl⟩)
            clear hlt HLg
            gi_wp2_with (refine ⟨trivial, ?_⟩; gi_at_call 34; refine (CallsIn.inRound y (callsIn_wide.2 HC.out)).mono ?_; rintro e w2 ⟨rfl, hb2⟩; have g4 : w2.cell? ⟨S + 1 + 1 + 1 + 1, 0, none⟩ = some (.int .i64 (L1 : Int)) := (hbest.below hb2 hbest.lt).cell 0)
            rw [hz4]
            refine ⟨(keeps_below hb2).from _, ⟨hb2.block _ (by omega), hb2.block _ (by omega), hb2.size⟩, ⟨HNr.out, ?_, h0.below hb2 h0.lt, h1.below hb2 h1.lt, h2.below hb2 h2.lt, h3.below hb2 h3.lt, hbel.trans (hb2.mono (by have := hbel.size; omega))⟩⟩
            rw [HLg2.out.1, HLg2.out.2]
            exact hbest.below hb2 hbest.lt
    case done =>
      rintro D W hD hst hK
      rw [hz4] at hD
      obtain ⟨hnear, hbest, h0, h1, h2, h3, hbel⟩ := hst
      have hfar := lg_far (l := l) (k := k) (j := n) HL3.out (by rw [HNL.out]; omega) hnear (fun h => by rw [HNL.out] at h; omega)
      rw [hfar] at hbest
      have c0 : W.cell? ⟨S + 1 + 1 + 1 + 1, 0, none⟩ = some (.int .i64 (cpn l k : Int)) := hbest.cell 0
      have c1 : W.cell? ⟨S + 1 + 1 + 1 + 1, 1, none⟩ = some (.int .i64 (cpd l k : Int)) := hbest.cell 1
      have c2 : W.cell? ⟨S + 1 + 1 + 1 + 1, 2, none⟩ = some (.slice none 0 0) := hbest.cell 2
      have d0 : W.cell? ⟨S + 1 + 1, 0, none⟩ = some (.int .i64 0) := h2.cell 0
      have d1 : W.cell? ⟨S + 1 + 1, 1, none⟩ = some (.int .i64 0) := h2.cell 1
      have d2 : W.cell? ⟨S + 1 + 1, 2, none⟩ = some (.slice none 0 0) := h2.cell 2
      have f0 : W.frozen? ⟨S + 1 + 1, 0, none⟩ = false := h2.frozen 0
      have f1 : W.frozen? ⟨S + 1 + 1, 1, none⟩ = false := h2.frozen 1
      have f2 : W.frozen? ⟨S + 1 + 1, 2, none⟩ = false := h2.frozen 2
      clear hnear hfar
      go_wp2_with fail
      change bodyPostM _ _ _ _ _ _ _ (it3 W (S + 2) (.int .i64 (cpn l k : Int)) (.int .i64 (cpd l k : Int)) (.slice none 0 0))
      have hK2 : (it3 W (S + 2) (.int .i64 (cpn l k : Int)) (.int .i64 (cpd l k : Int)) (.slice none 0 0)).heap[D]? = some (.deferred (some [])) := (it3_other (by omega)).trans hK
      have w2 := it3_blk (x' := .int .i64 (cpn l k : Int)) (y' := .int .i64 (cpd l k : Int)) (z' := .slice none 0 0) h2
      have bz : Below S w (it3 W (S + 2) (.int .i64 (cpn l k : Int)) (.int .i64 (cpd l k : Int)) (.slice none 0 0)) := it3_below hbel (by omega)
      generalize it3 W (S + 2) (.int .i64 (cpn l k : Int)) (.int .i64 (cpd l k : Int)) (.slice none 0 0) = X at *
      have cd0 : (X.putObj D (.deferred none)).cell? ⟨S + 1 + 1, 0, none⟩ = some (.int .i64 (cpn l k : Int)) := (World.cell?_of_block (a := ⟨S + 1 + 1, 0, none⟩) (World.putObj_heap_other (by show S + 1 + 1 ≠ D; omega))).trans (w2.cell 0)
      have cd1 : (X.putObj D (.deferred none)).cell? ⟨S + 1 + 1, 1, none⟩ = some (.int .i64 (cpd l k : Int)) := (World.cell?_of_block (a := ⟨S + 1 + 1, 1, none⟩) (World.putObj_heap_other (by show S + 1 + 1 ≠ D; omega))).trans (w2.cell 1)
      have cd2 : (X.putObj D (.deferred none)).cell? ⟨S + 1 + 1, 2, none⟩ = some (.slice none 0 0) := (World.cell?_of_block (a := ⟨S + 1 + 1, 2, none⟩) (World.putObj_heap_other (by show S + 1 + 1 ≠ D; omega))).trans (w2.cell 2)
      refine ⟨by simp, .inl ⟨_, _, rfl, run_takeDeferred hK2, ?_⟩⟩
      refine ⟨.agg #[.int .i64 (cpn l k : Int), .int .i64 (cpd l k : Int), .slice none 0 0], by simp [results, Try.results29, go_sem, cd0, cd1, cd2], ?_⟩
      refine ⟨rfl, ?_⟩
      rw [HSz.out]
      exact bz.trans (belowK_b (w := w) (Nat.le_of_eq HSz.out.symm) X D _ _ (by have := HSz.out; omega) hK2 rfl rfl)
    case stop =>
      rintro D cc j W hD hjN ⟨rfl, hbest, h2, hbel⟩ hK
      rw [hz4] at hD
      have c0 : W.cell? ⟨S + 1 + 1 + 1 + 1, 0, none⟩ = some (.int .i64 (cpn l k : Int)) := hbest.cell 0
      have c1 : W.cell? ⟨S + 1 + 1 + 1 + 1, 1, none⟩ = some (.int .i64 (cpd l k : Int)) := hbest.cell 1
      have c2 : W.cell? ⟨S + 1 + 1 + 1 + 1, 2, none⟩ = some (.slice none 0 0) := hbest.cell 2
      have d0 : W.cell? ⟨S + 1 + 1, 0, none⟩ = some (.int .i64 0) := h2.cell 0
      have d1 : W.cell? ⟨S + 1 + 1, 1, none⟩ = some (.int .i64 0) := h2.cell 1
      have d2 : W.cell? ⟨S + 1 + 1, 2, none⟩ = some (.slice none 0 0) := h2.cell 2
      have f0 : W.frozen? ⟨S + 1 + 1, 0, none⟩ = false := h2.frozen 0
      have f1 : W.frozen? ⟨S + 1 + 1, 1, none⟩ = false := h2.frozen 1
      have f2 : W.frozen? ⟨S + 1 + 1, 2, none⟩ = false := h2.frozen 2
      refine wpIn_wide.2 ?_
      go_wp2_with fail
      change bodyPostM _ _ _ _ _ _ _ (it3 W (S + 2) (.int .i64 (cpn l k : Int)) (.int .i64 (cpd l k : Int)) (.slice none 0 0))
      have hK2 : (it3 W (S + 2) (.int .i64 (cpn l k : Int)) (.int .i64 (cpd l k : Int)) (.slice none 0 0)).heap[D]? = some (.deferred (some [])) := (it3_other (by omega)).trans hK
      have w2 := it3_blk (x' := .int .i64 (cpn l k : Int)) (y' := .int .i64 (cpd l k : Int)) (z' := .slice none 0 0) h2
      have bz : Below S w (it3 W (S + 2) (.int .i64 (cpn l k : Int)) (.int .i64 (cpd l k : Int)) (.slice none 0 0)) := it3_below hbel (by omega)
      generalize it3 W (S + 2) (.int .i64 (cpn l k : Int)) (.int .i64 (cpd l k : Int)) (.slice none 0 0) = X at *
      have cd0 : (X.putObj D (.deferred none)).cell? ⟨S + 1 + 1, 0, none⟩ = some (.int .i64 (cpn l k : Int)) := (World.cell?_of_block (a := ⟨S + 1 + 1, 0, none⟩) (World.putObj_heap_other (by show S + 1 + 1 ≠ D; omega))).trans (w2.cell 0)
      have cd1 : (X.putObj D (.deferred none)).cell? ⟨S + 1 + 1, 1, none⟩ = some (.int .i64 (cpd l k : Int)) := (World.cell?_of_block (a := ⟨S + 1 + 1, 1, none⟩) (World.putObj_heap_other (by show S + 1 + 1 ≠ D; omega))).trans (w2.cell 1)
      have cd2 : (X.putObj D (.deferred none)).cell? ⟨S + 1 + 1, 2, none⟩ = some (.slice none 0 0) := (World.cell?_of_block (a := ⟨S + 1 + 1, 2, none⟩) (World.putObj_heap_other (by show S + 1 + 1 ≠ D; omega))).trans (w2.cell 2)
      refine ⟨by simp, .inl ⟨_, _, rfl, run_takeDeferred hK2, ?_⟩⟩
      refine ⟨.agg #[.int .i64 (cpn l k : Int), .int .i64 (cpd l k : Int), .slice none 0 0], by simp [results, Try.results29, go_sem, cd0, cd1, cd2], ?_⟩
      refine ⟨rfl, ?_⟩
      rw [HSz.out]
      exact bz.trans (belowK_b (w := w) (Nat.le_of_eq HSz.out.symm) X D _ _ (by have := HSz.out; omega) hK2 rfl rfl)
end Go.Proofs.Ytaohkakefdhecaa
