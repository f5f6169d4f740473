/-
  A chip made anew: the program's calls Right and New. Nothing of one statement alone stands here.
-/
import Derived.Test.YtbfifppdcmimaaaGreatKB
namespace Go.Proofs.YtbfifppdcmimaaaGreat
open Go.RowKit Crcm Go.ChangeShapes

/-- a right geometry, of raw numbers -/
def GdI (a b s : Int) : Prop := 8 ≤ a ∧ a ≤ 128 ∧ 4 ≤ b ∧ b ≤ 32 ∧ (s = 64 ∨ s = 128 ∨ s = 256 ∨ s = 512)
instance (a b s : Int) : Decidable (GdI a b s) := by unfold GdI; infer_instance
def geoV (a b s : Int) : Value := .agg #[.int .i64 a, .int .i64 b, .int .i64 s]

set_option maxRecDepth 100000 in
set_option maxHeartbeats 1000000 in
theorem gright_yes {a b s : Int} (h : GdI a b s) (w : World) : Calls Tryz.prog 41 #[geoV a b s] w fun e w' => e = .returned (.bool true) ∧ Below w.heap.size w w' := by
  unfold geoV
  obtain ⟨h1, h2, h3, h4, h5⟩ := h
  have t1 : decide ((8 : Int) ≤ a) = true := decide_eq_true h1
  have t2 : decide (a ≤ (128 : Int)) = true := decide_eq_true h2
  have t3 : decide ((4 : Int) ≤ b) = true := decide_eq_true h3
  have t4 : decide (b ≤ (32 : Int)) = true := decide_eq_true h4
  clear h1 h2 h3 h4
  rcases h5 with rfl | rfl | rfl | rfl
  all_goals
    go_enter Tryz.func41, Tryz.ntmps41
    go_wp2
    go_ret
    exact ⟨rfl, (Below.refl _ _).alloc (Nat.le_refl _) _⟩
set_option maxRecDepth 100000 in
set_option maxHeartbeats 1000000 in
theorem gright_no {a b s : Int} (h : ¬ GdI a b s) (w : World) : Calls Tryz.prog 41 #[geoV a b s] w fun e w' => e = .returned (.bool false) ∧ Below w.heap.size w w' := by
  unfold geoV
  by_cases h5 : s = 64 ∨ s = 128 ∨ s = 256 ∨ s = 512
  · by_cases h1 : 8 ≤ a
    · have t1 : decide ((8 : Int) ≤ a) = true := decide_eq_true h1
      by_cases h2 : a ≤ 128
      · have t2 : decide (a ≤ (128 : Int)) = true := decide_eq_true h2
        by_cases h3 : 4 ≤ b
        · have t3 : decide ((4 : Int) ≤ b) = true := decide_eq_true h3
          have t4 : decide (b ≤ (32 : Int)) = false := decide_eq_false fun h4 => h ⟨h1, h2, h3, h4, h5⟩
          clear h1 h2 h3 h
          rcases h5 with rfl | rfl | rfl | rfl
          all_goals
            go_enter Tryz.func41, Tryz.ntmps41
            go_wp2
            go_ret
            exact ⟨rfl, (Below.refl _ _).alloc (Nat.le_refl _) _⟩
        · have t3 : decide ((4 : Int) ≤ b) = false := decide_eq_false h3
          clear h1 h2 h3 h
          rcases h5 with rfl | rfl | rfl | rfl
          all_goals
            go_enter Tryz.func41, Tryz.ntmps41
            go_wp2
            go_ret
            exact ⟨rfl, (Below.refl _ _).alloc (Nat.le_refl _) _⟩
      · have t2 : decide (a ≤ (128 : Int)) = false := decide_eq_false h2
        clear h1 h2 h
        rcases h5 with rfl | rfl | rfl | rfl
        all_goals
          go_enter Tryz.func41, Tryz.ntmps41
          go_wp2
          go_ret
          exact ⟨rfl, (Below.refl _ _).alloc (Nat.le_refl _) _⟩
    · have t1 : decide ((8 : Int) ≤ a) = false := decide_eq_false h1
      clear h1 h
      rcases h5 with rfl | rfl | rfl | rfl
      all_goals
        go_enter Tryz.func41, Tryz.ntmps41
        go_wp2
        go_ret
        exact ⟨rfl, (Below.refl _ _).alloc (Nat.le_refl _) _⟩
  · have t1 : (s == 64) = false := beq_eq_false_iff_ne.2 (by omega)
    have t2 : (s == 128) = false := beq_eq_false_iff_ne.2 (by omega)
    have t3 : (s == 256) = false := beq_eq_false_iff_ne.2 (by omega)
    have t4 : (s == 512) = false := beq_eq_false_iff_ne.2 (by omega)
    clear h5 h
    go_enter Tryz.func41, Tryz.ntmps41
    go_wp2
    go_ret
    exact ⟨rfl, (Below.refl _ _).alloc (Nat.le_refl _) _⟩
theorem Tryz.infoPg : (Tryz.prog.info? 23).map (fun i => (i.zero, i.size, i.bytes)) = some (some (.slice none 0 0), 1, 24) := by kernel_rfl
theorem Tryz.infoBk : (Tryz.prog.info? 99).map (fun i => (i.zero, i.size, i.bytes)) = some (some (.agg #[.slice none 0 0, .bool false, .bool false, .int .i64 0]), 4, 40) := by kernel_rfl

/-- a row of numbers -/
def Ri (w : World) (a : Option Addr) (l : List Int) : Prop := l.length ≤ maxLen ∧ (l = [] ∨ ∃ b off, a = some ⟨b, off, none⟩ ∧ ∀ j (h : j < l.length), w.cell? ⟨b, off + j, none⟩ = some (.int .i64 l[j]))
theorem Ri.nil {w : World} {a : Option Addr} : Ri w a [] := ⟨Nat.zero_le _, .inl rfl⟩
theorem Ri.below {w w' : World} {a : Option Addr} {l : List Int} (h : Ri w a l) (hb : Below w.heap.size w w') : Ri w' a l := by
  obtain ⟨h1, h2⟩ := h
  refine ⟨h1, ?_⟩
  rcases h2 with h2 | ⟨b, off, rfl, h2⟩
  · exact .inl h2
  · exact .inr ⟨b, off, rfl, fun j hj => (hb.cell (p := ⟨b, off + j, none⟩) (block_lt_of_cell (h2 j hj))).trans (h2 j hj)⟩

/-- which blocks are bad -/
def badf (l : List Int) (k : Nat) : Bool := decide ((k : Int) ∈ l)
/-- a chip that was made anew -/
def newC (nb np sz : Nat) (l : List Int) : Ch := ⟨nb, np, sz, fun _ _ => none, fun _ => false, badf l, fun _ => 0, true, [], 0, 0, 0⟩

/-- the chip's blocks while their pages are made -/
structure NwI (w wr : World) (gb bb bc nb np sz k : Nat) : Prop where
  geo : Blk wr gb 38 #[.int .i64 nb, .int .i64 np, .int .i64 sz]
  chip : Blk wr bc 96 #[.int .i64 nb, .int .i64 np, .int .i64 sz, .slice (some ⟨bb, 0, none⟩) nb nb, .bool true, .slice none 0 0, .int .i64 0, .int .i64 0, .int .i64 0]
  bel : Below w.heap.size w wr
  lt0 : w.heap.size = gb
  lt1 : gb < bb
  lt2 : bc = bb + 1
  rest : ∃ pb : Nat → Nat, (∃ cs, Blk wr bb 99 cs ∧ cs.size = 4 * nb ∧ ∀ j, j < nb → (∃ v, cs[j * 4]? = some v ∧ (j < k → v = .slice (some ⟨pb j, 0, none⟩) np np)) ∧ cs[j * 4 + 1]? = some (.bool false) ∧ cs[j * 4 + 2]? = some (.bool false) ∧ cs[j * 4 + 3]? = some (.int .i64 0)) ∧
    (∀ j, j < k → bc < pb j ∧ ∃ cs, Blk wr (pb j) 23 cs ∧ cs.size = np ∧ ∀ i, i < np → cs[i]? = some (.slice none 0 0)) ∧ ∀ i j, i < k → j < k → pb i = pb j → i = j
theorem NwI.next {w wr : World} {gb bb bc nb np sz k : Nat} (h : NwI w wr gb bb bc nb np sz k) (hk : k < nb) (cs' : Array Value) (h1 : cs'.size = np) (h2 : ∀ i, i < np → cs'[i]? = some (.slice none 0 0)) :
    NwI w (((wr.alloc (.cells cs' 23)).setCell ⟨bb, k * 4, none⟩ (.slice (some ⟨wr.heap.size, 0, none⟩) np np)).drew) gb bb bc nb np sz (k + 1) := by
  obtain ⟨pb, ⟨cs, g1, g2, g3⟩, g4, g5⟩ := h.rest
  have l1 := h.lt1
  have l2 := h.lt2
  have hlt : bc < wr.heap.size := h.chip.lt
  have hB : Below w.heap.size w (((wr.alloc (.cells cs' 23)).setCell ⟨bb, k * 4, none⟩ (.slice (some ⟨wr.heap.size, 0, none⟩) np np)).drew) :=
    ((h.bel.alloc h.bel.size _).setCell (p := ⟨bb, k * 4, none⟩) (by show w.heap.size ≤ bb; have := h.lt0; omega) _).drew
  refine ⟨(h.geo.alloc _).far (p := ⟨bb, k * 4, none⟩) (by show gb ≠ bb; omega) _, (h.chip.alloc _).far (p := ⟨bb, k * 4, none⟩) (by show bc ≠ bb; omega) _, hB, h.lt0, h.lt1, h.lt2, up1 pb k wr.heap.size, ⟨_, (g1.alloc _).put (k * 4) _, by rw [Array.size_setIfInBounds]; exact g2, fun j hj => ?_⟩, fun j hj => ?_, fun i j hi hj e => ?_⟩
  · obtain ⟨⟨v, e0, e1⟩, f1, f2, f3⟩ := g3 j hj
    refine ⟨?_, (set_ne (by omega)).trans f1, (set_ne (by omega)).trans f2, (set_ne (by omega)).trans f3⟩
    by_cases ej : j = k
    · subst ej
      exact ⟨_, set_at (by omega), fun _ => by rw [up1_at]⟩
    · exact ⟨v, (set_ne (by omega)).trans e0, fun hj' => by rw [up1_ne _ _ ej]; exact e1 (by omega)⟩
  · by_cases ej : j = k
    · subst ej
      rw [up1_at]
      refine ⟨hlt, cs', ?_, h1, h2⟩
      exact Blk.far (p := ⟨bb, j * 4, none⟩) (Blk.new wr _ cs') (by show wr.heap.size ≠ bb; omega) _
    · rw [up1_ne _ _ ej]
      obtain ⟨f1, cs2, f2, f3, f4⟩ := g4 j (by omega)
      exact ⟨f1, cs2, (f2.alloc _).far (p := ⟨bb, k * 4, none⟩) (by show pb j ≠ bb; omega) _, f3, f4⟩
  · by_cases ei : i = k
    · by_cases ej : j = k
      · rw [ei, ej]
      · subst ei
        rw [up1_at, up1_ne _ _ ej] at e
        obtain ⟨_, cs2, f2, _⟩ := g4 j (by omega)
        have := f2.lt
        omega
    · by_cases ej : j = k
      · subst ej
        rw [up1_at, up1_ne _ _ ei] at e
        obtain ⟨_, cs2, f2, _⟩ := g4 i (by omega)
        have := f2.lt
        omega
      · rw [up1_ne _ _ ei, up1_ne _ _ ej] at e
        exact g5 i j (by omega) (by omega) e
/-- all of them made: a chip -/
theorem NwI.chAt {w wr : World} {gb bb bc nb np sz : Nat} (h : NwI w wr gb bb bc nb np sz nb) (hg : Gd nb np sz) :
    ∃ o : Own, o.bc = bc ∧ o.bb = bb ∧ ChAt wr (o.F nb) o (newC nb np sz []) ∧ ∀ b, o.F nb b → gb < b := by
  obtain ⟨pb, ⟨cs, g1, g2, g3⟩, g4, g5⟩ := h.rest
  have l1 := h.lt1
  have l2 := h.lt2
  refine ⟨⟨bc, bb, pb⟩, rfl, rfl, ⟨hg, fun b hb => ?_, fun b hb => hb, by show bc ≠ bb; omega, fun k hk => ?_, g5, ⟨.slice none 0 0, h.chip, FlAt.nil⟩, ⟨cs, g1, g2, fun j hj => ?_⟩, fun k hk => ?_⟩, fun b hb => ?_⟩
  · rcases hb with rfl | rfl | ⟨k, hk, rfl⟩
    · exact h.chip.lt
    · exact g1.lt
    · obtain ⟨_, cs2, f2, _⟩ := g4 k hk
      exact f2.lt
  · have := (g4 k hk).1
    exact ⟨by show pb k ≠ bc; omega, by show pb k ≠ bb; omega⟩
  · obtain ⟨⟨v, e0, e1⟩, f1, f2, f3⟩ := g3 j hj
    exact ⟨by rw [e0, e1 hj]; rfl, f1, f2, f3⟩
  · obtain ⟨_, cs2, f2, f3, f4⟩ := g4 k hk
    exact ⟨cs2, f2, f3, fun i hi => ⟨_, f4 i hi, rfl⟩⟩
  · rcases hb with e | e | ⟨k, hk, e⟩
    · have e : b = bc := e
      omega
    · have e : b = bb := e
      omega
    · have := (g4 k hk).1
      have e : b = pb k := e
      omega
theorem badf_next (l : List Int) (i : Nat) (h : i < l.length) (k : Nat) (hk : l[i] = (k : Int)) : up1 (badf (l.take i)) k true = badf (l.take (i + 1)) := by
  funext j
  have e : l.take (i + 1) = l.take i ++ [l[i]] := by rw [List.take_add_one, List.getElem?_eq_getElem h]; rfl
  unfold badf
  rw [e]
  by_cases ej : j = k
  · subst ej
    rw [up1_at, eq_comm, decide_eq_true_iff, hk]
    simp
  · rw [up1_ne _ _ ej]
    simp only [List.mem_append, List.mem_singleton, hk]
    have : ¬ (j : Int) = (k : Int) := by omega
    simp [this]

set_option maxRecDepth 100000 in
set_option maxHeartbeats 2000000 in
theorem new_any (nb np sz : Nat) (w : World) (hg : Gd nb np sz) (l : List Int) (a : Option Addr) (m c : Nat) (ha : Ri w a l) (hl : l.length = m) :
    Calls Tryz.prog 8 #[geoV nb np sz, .slice a m c] w fun e w' => Below w.heap.size w w' ∧
      (((∀ x ∈ l, 0 ≤ x ∧ x < nb) ∧ ∃ o : Own, e = .returned (.tuple #[o.p, .int .i64 0]) ∧ ChAt w' (o.F nb) o (newC nb np sz l) ∧ ∀ b, o.F nb b → w.heap.size ≤ b) ∨
       ((∃ x ∈ l, ¬ (0 ≤ x ∧ x < nb)) ∧ e = .returned (.tuple #[.pointer none, .int .i64 1]))) := by
  obtain ⟨i1, hi1, hz1, hs1, hb1⟩ := info_parts Tryz.infoBk
  obtain ⟨i2, hi2, hz2, hs2, hb2⟩ := info_parts Tryz.infoPg
  have g1 : nb < 129 := hg.2.1
  have g2 : np < 33 := hg.2.2.2.1
  have hmk := fun W => run_make (P := Tryz.prog) W 93 99 i1 _ Tryz.underlying93 hi1 hz1 .i64 .i64 nb nb (by omega) (Int.le_refl _) (by rw [hb1]; omega) (by omega)
  have hmk2 := fun W => run_make (P := Tryz.prog) W 97 23 i2 _ Tryz.underlying97 hi2 hz2 .i64 .i64 np np (by omega) (Int.le_refl _) (by rw [hb2]; omega) (by omega)
  simp only [Int.toNat_natCast, hs1] at hmk
  simp only [Int.toNat_natCast, hs2] at hmk2
  have HM2 : Hid (∀ i, i < np → (madeCells #[.slice none 0 0] np)[i]? = some (.slice none 0 0)) := Lib.hid fun i hi => made_get hi
  have HM3 : Hid ((madeCells #[.slice none 0 0] np).size = np) := Lib.hid (size_madeCells _ _)
  have HM1 : Hid ((madeCells (Value.agg #[.slice none 0 0, .bool false, .bool false, .int .i64 0]).cells (nb * 4)).size = 4 * nb ∧ ∀ j, j < nb → (madeCells (Value.agg #[.slice none 0 0, .bool false, .bool false, .int .i64 0]).cells (nb * 4))[j * 4]? = some (.slice none 0 0) ∧ (madeCells (Value.agg #[.slice none 0 0, .bool false, .bool false, .int .i64 0]).cells (nb * 4))[j * 4 + 1]? = some (.bool false) ∧
      (madeCells (Value.agg #[.slice none 0 0, .bool false, .bool false, .int .i64 0]).cells (nb * 4))[j * 4 + 2]? = some (.bool false) ∧ (madeCells (Value.agg #[.slice none 0 0, .bool false, .bool false, .int .i64 0]).cells (nb * 4))[j * 4 + 3]? = some (.int .i64 0)) := Lib.hid ⟨(size_madeCells _ _).trans (by omega), fun j hj => by
    have e : (Value.agg #[.slice none 0 0, .bool false, .bool false, .int .i64 0]).cells = #[.slice none 0 0, .bool false, .bool false, .int .i64 0] := rfl
    rw [e]
    refine ⟨?_, ?_, ?_, ?_⟩
    · simp [madeCells, show j * 4 < nb * 4 by omega]
    · simp [madeCells, show j * 4 + 1 < nb * 4 by omega, Nat.add_mod]
    · simp [madeCells, show j * 4 + 2 < nb * 4 by omega, Nat.add_mod]
    · simp [madeCells, show j * 4 + 3 < nb * 4 by omega, Nat.add_mod]⟩
  have HR := Lib.hid (fun W => gright_yes (a := nb) (b := np) (s := sz) (by unfold Gd at hg; unfold GdI; omega) W)
  have HGd := Lib.hid hg
  have HA := Lib.hid ha
  have HL := Lib.hid hl
  have m9 : m ≤ 9223372036854775807 := by have := ha.1; unfold maxLen at this; omega
  unfold geoV at HR ⊢
  clear hi1 hz1 hs1 hb1 hi2 hz2 hs2 hb2 hg ha hl
  go_enter Tryz.func8, Tryz.ntmps8
  go_wp2_with fail
  refine (HR.out _).mono ?_
  rintro r w1 ⟨rfl, hb⟩
  have HB1 := Lib.hid (((Below.refl w.heap.size w).alloc (Nat.le_refl _) (.cells #[.int .i64 nb, .int .i64 np, .int .i64 sz] 38)).trans (hb.mono (by simp)))
  have BG : Hid (Blk w1 w.heap.size 38 #[.int .i64 nb, .int .i64 np, .int .i64 sz]) := Lib.hid ((Blk.new w _ _).below hb (by simp))
  clear hb
  generalize hgb : w.heap.size = gb at BG
  have HGb := Lib.hid hgb
  clear hgb
  have q0 := BG.out.cell 0
  have q1 := BG.out.cell 1
  have q2 := BG.out.cell 2
  have r0 := fun ob => cell_alloc q0 ob
  have r1 := fun ob => cell_alloc q1 ob
  have r2 := fun ob => cell_alloc q2 ob
  go_wp2_with fail
  go_region
  generalize hcs1 : madeCells (Value.agg #[.slice none 0 0, .bool false, .bool false, .int .i64 0]).cells (nb * 4) = cs1 at HM1
  have hcs1' : madeCells #[.slice none 0 0, .bool false, .bool false, .int .i64 0] (nb * 4) = cs1 := hcs1
  rw [hcs1']
  have N0 : Hid (NwI w (((w1.alloc (.cells cs1 99)).alloc (.cells #[.int .i64 nb, .int .i64 np, .int .i64 sz, .slice (some ⟨w1.heap.size, 0, none⟩) nb nb, .bool true, .slice none 0 0, .int .i64 0, .int .i64 0, .int .i64 0] 96)).drew) gb w1.heap.size (w1.heap.size + 1) nb np sz 0) := Lib.hid (by
    refine ⟨(BG.out.alloc _).alloc _, ?_, ((HB1.out.alloc HB1.out.size _).alloc (by have := HB1.out.size; simp; omega) _).drew, HGb.out, BG.out.lt, rfl, fun _ => 0, ⟨cs1, (Blk.new w1 _ cs1).alloc _, HM1.out.1, fun j hj => ?_⟩, fun j hj => absurd hj (Nat.not_lt_zero _), fun i j hi => absurd hi (Nat.not_lt_zero _)⟩
    · have := Blk.new (w1.alloc (.cells cs1 99)) 96 #[.int .i64 nb, .int .i64 np, .int .i64 sz, .slice (some ⟨w1.heap.size, 0, none⟩) nb nb, .bool true, .slice none 0 0, .int .i64 0, .int .i64 0, .int .i64 0]
      have h2 : Blk ((w1.alloc (.cells cs1 99)).alloc (.cells #[.int .i64 nb, .int .i64 np, .int .i64 sz, .slice (some ⟨w1.heap.size, 0, none⟩) nb nb, .bool true, .slice none 0 0, .int .i64 0, .int .i64 0, .int .i64 0] 96)) (w1.heap.size + 1) 96 #[.int .i64 nb, .int .i64 np, .int .i64 sz, .slice (some ⟨w1.heap.size, 0, none⟩) nb nb, .bool true, .slice none 0 0, .int .i64 0, .int .i64 0, .int .i64 0] := by simpa using this
      exact h2
    · obtain ⟨e0, e1, e2, e3⟩ := HM1.out.2 j hj
      exact ⟨⟨_, e0, fun h => absurd h (Nat.not_lt_zero _)⟩, e1, e2, e3⟩)
  generalize (((w1.alloc (.cells cs1 99)).alloc (.cells #[.int .i64 nb, .int .i64 np, .int .i64 sz, .slice (some ⟨w1.heap.size, 0, none⟩) nb nb, .bool true, .slice none 0 0, .int .i64 0, .int .i64 0, .int .i64 0] 96)).drew) = W2 at N0
  clear hcs1 hcs1' HM1 hmk q0 q1 q2 r0 r1 r2 HB1
  generalize w1.heap.size = bb at N0
  clear BG
  have c3 := N0.out.chip.cell 3
  have bbg : bb ≠ bb + 1 := by omega
  have bgb : bb + 1 ≠ bb := by omega
  go_wp2_with fail
  go_loopw [7, 24] (fun _ i wr => ∃ k : Nat, k ≤ nb ∧ i = .int .i64 k ∧ Hid (NwI w wr gb bb (bb + 1) nb np sz k)) (fun _ i _ => nb - (intOf i).toNat)
  case atStart => exact ⟨0, by omega, rfl, N0⟩
  case round =>
    obtain ⟨k, hk, rfl, hN⟩ := hrel
    by_cases hlt : k < nb
    · have c3 := hN.out.chip.cell 3
      have d3 := fun ob => cell_alloc c3 ob
      have c1 := hN.out.geo.cell 1
      have d1 := fun ob => cell_alloc c1 ob
      obtain ⟨pb, ⟨cs, hcs, hcz, hcv⟩, -⟩ := hN.out.rest
      obtain ⟨⟨v, e0, -⟩, -⟩ := hcv k hlt
      have x0 := (hcs.cell (k * 4)).trans e0
      have y0 := fun ob => cell_alloc x0 ob
      have z0 := fun ob i => (hcs.alloc ob).frozen i
      have kl : (k : Int) < (nb : Int) := by omega
      have k0 : (0 : Int) ≤ (k : Int) := by omega
      have HN' := Lib.hid (hN.out.next hlt _ HM3.out HM2.out)
      clear hcs hcz hcv e0
      go_wp2_with fail
      go_region
      go_wp2
      go_roundw
      case rel => exact ⟨k + 1, by omega, by go_num, HN'⟩
      case measure => simp [intOf]; omega
    · have hkn : k = nb := by omega
      subst hkn
      obtain ⟨o, ho1, ho2, hch, hfr⟩ := hN.out.chAt HGd.out
      have HCh := Lib.hid hch
      have HFr := Lib.hid hfr
      have HGe := Lib.hid hN.out.geo
      have HBl := Lib.hid hN.out.bel
      have HO1 := Lib.hid ho1
      have HO2 := Lib.hid ho2
      have HG0 := Lib.hid hN.out.lt0
      clear hch hfr ho1 ho2 hN c3 hmk2 HM2 HM3 HR N0
      go_wp2_with fail
      go_loopw [9, 40] (fun _ i w2 => ∃ j : Nat, j ≤ m ∧ i = .int .i64 j ∧ Hid (∀ n (hn : n < l.length), n < j → 0 ≤ l[n] ∧ l[n] < k) ∧ Hid (ChAt w2 (o.F k) o (newC k np sz (l.take j))) ∧ Hid (Blk w2 gb 38 #[.int .i64 k, .int .i64 np, .int .i64 sz]) ∧ Hid (Below w.heap.size w w2)) (fun _ i _ => m - (intOf i).toNat)
      case atStart => exact ⟨0, by omega, rfl, Lib.hid fun n _ h => absurd h (Nat.not_lt_zero _), HCh, HGe, HBl⟩
      case round =>
        obtain ⟨j, hj, rfl, hA, hC, hG, hB⟩ := hrel
        by_cases hlt : j < m
        · have hjl : j < l.length := by have := HL.out; omega
          rcases HA.out.2 with h0 | ⟨b, off, rfl, hcs⟩
          · rw [h0] at hjl; simp at hjl
          have q0 := (hB.out.cell (block_lt_of_cell (hcs j hjl))).trans (hcs j hjl)
          have c0 := hG.out.cell 0
          have jl' : (j : Int) < (m : Int) := by omega
          have HNo : Hid (¬ (0 ≤ l[j] ∧ l[j] < (k : Int)) → ∃ x ∈ l, ¬ (0 ≤ x ∧ x < (k : Int))) := Lib.hid fun h => ⟨_, List.getElem_mem hjl, h⟩
          have HYes : Hid (0 ≤ l[j] ∧ l[j] < (k : Int) → ∀ n (hn : n < l.length), n < j + 1 → 0 ≤ l[n] ∧ l[n] < k) := Lib.hid fun h n hn g => by
            by_cases e : n = j
            · subst e; exact h
            · exact hA.out n hn (by omega)
          have HBf : Hid (∀ x : Nat, l[j] = (x : Int) → up1 (badf (l.take j)) x true = badf (l.take (j + 1))) := Lib.hid fun x hx => badf_next l j hjl x hx
          clear hcs
          generalize l[j] = x at q0 HNo HYes HBf
          by_cases hx0 : x < 0
          · have t0 : decide (x < 0) = true := decide_eq_true hx0
            have HN' := Lib.hid (HNo.out (by omega))
            clear hx0 HYes HBf
            go_wp2
            go_ret2
            exact ⟨hB.out, .inr ⟨HN'.out, rfl⟩⟩
          have t0 : decide (x < 0) = false := decide_eq_false hx0
          by_cases hx1 : (k : Int) ≤ x
          · have t1 : decide ((k : Int) ≤ x) = true := decide_eq_true hx1
            have HN' := Lib.hid (HNo.out (by omega))
            clear hx0 hx1 HYes HBf
            go_wp2
            go_ret2
            exact ⟨hB.out, .inr ⟨HN'.out, rfl⟩⟩
          have t1 : decide ((k : Int) ≤ x) = false := decide_eq_false hx1
          obtain ⟨y, rfl⟩ : ∃ y : Nat, x = y := ⟨x.toNat, by omega⟩
          have HY' := Lib.hid (HYes.out (by omega))
          have HBf' := Lib.hid (HBf.out y rfl)
          have yk : y < k := by omega
          have t2 : decide (k ≤ y) = false := decide_eq_false (by omega)
          have c3 : wr.cell? ⟨bb + 1, 3, none⟩ = some (.slice (some ⟨bb, 0, none⟩) k k) := by
            have := hC.out.cell.2.2.2.1
            rw [HO1.out, HO2.out] at this
            exact this
          have x2 : wr.cell? ⟨bb, y * 4 + 2, none⟩ = some (.bool (badf (l.take j) y)) := by
            have := (hC.out.bcell (k := y) yk).2.2.1
            rw [HO2.out] at this
            exact this
          have z2 : wr.frozen? ⟨bb, y * 4 + 2, none⟩ = false := by
            have := hC.out.bfroz (y * 4 + 2)
            rw [HO2.out] at this
            exact this
          have hput := hC.out.putBad y yk true
          rw [HO2.out] at hput
          have eC : { newC k np sz (l.take j) with bad := up1 (newC k np sz (l.take j)).bad y true } = newC k np sz (l.take (j + 1)) := by
            simp only [newC]
            rw [HBf'.out]
          rw [eC] at hput
          have HPut := Lib.hid hput
          have HGf := Lib.hid (hG.out.far (p := ⟨bb, y * 4 + 2, none⟩) (by show gb ≠ bb; have := HFr.out bb (.inr (.inl HO2.out.symm)); omega) (.bool true))
          have HBe := Lib.hid (hB.out.setCell (p := ⟨bb, y * 4 + 2, none⟩) (by show w.heap.size ≤ bb; have := HFr.out bb (.inr (.inl HO2.out.symm)); have := HG0.out; omega) (.bool true))
          clear hput eC
          have y0 : (0 : Int) ≤ (y : Int) := by omega
          have y1 : (y : Int) < (k : Int) := by omega
          clear HNo HYes HBf hx0 hx1
          go_wp2
          go_roundw
          case rel => exact ⟨j + 1, by omega, by go_num, HY', HPut, HGf, HBe⟩
          case measure => simp [intOf]; omega
        · have hjm : j = m := by omega
          subst hjm
          have hlj := HL.out
          have HAll : Hid (∀ x ∈ l, 0 ≤ x ∧ x < (k : Int)) := Lib.hid fun x hx => by
            obtain ⟨n, hn, rfl⟩ := List.mem_iff_getElem.1 hx
            exact hA.out n hn (by omega)
          have hC2 := hC.out
          rw [List.take_of_length_le (by omega)] at hC2
          have HC2 := Lib.hid hC2
          clear hlj hC2
          go_wp2
          go_ret2
          exact ⟨hB.out, .inl ⟨HAll.out, o, by rw [← HO1.out]; rfl, HC2.out, fun b hb => by have := HFr.out b hb; have := HG0.out; omega⟩⟩
end Go.Proofs.YtbfifppdcmimaaaGreat
