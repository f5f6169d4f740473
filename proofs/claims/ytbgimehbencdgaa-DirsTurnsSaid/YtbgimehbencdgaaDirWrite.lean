/-
  An entry's slot: the program's answer. Nothing of one statement alone stands here.
-/
import Derived.Test.YtbgimehbencdgaaDirBase
import Derived.BigRegion
import Derived.Laws.CopyOwn
import Derived.RegionTactic
import Derived.ChangeAlike
namespace Go.Proofs.Ytbgimehbencdgaa
open Go.RowKit Crcm Tagm Go.ChangeShapes

/-- an entry's slot -/
def sb (i : Int) (s : ByteArray) : List Int := i % 256 :: i / 256 :: (s.size : Int) :: (nb s ++ List.replicate (13 - s.size) 0)
/-- whether there is one -/
def wE (i : Int) (s : ByteArray) : Int := if Mi i then nmE s else 1
def wB (i : Int) (s : ByteArray) : List Int := if wE i s = 0 then sb i s else []
theorem wE_arg {i : Int} {s : ByteArray} (h : ¬ Mi i) : wE i s = 1 := if_neg h
theorem wE_name {i : Int} {s : ByteArray} (h : Mi i) : wE i s = nmE s := if_pos h
theorem sb_length {i : Int} {s : ByteArray} (h : s.size ≤ 13) : (sb i s).length = 16 := by
  unfold sb
  simp [nb_length]; omega

/-- an entry, by value -/
def ev (i : Int) (s : ByteArray) : Value := .agg #[.int .i64 i, .string s]

set_option maxRecDepth 100000 in
set_option maxHeartbeats 1000000 in
theorem dwrite_no (i : Int) (s : ByteArray) (w : World) (h : wE i s ≠ 0) :
    Calls Try.prog 10 #[ev i s] w fun e w' => e = .returned (.tuple #[.slice none 0 0, .int .i64 (wE i s)]) ∧ Below w.heap.size w w' := by
  have HM := Lib.hid (fun w => mayBe_any i w)
  have HN := Lib.hid (fun w => name_any s w)
  unfold ev
  by_cases hm : Mi i
  · rw [wE_name hm] at h ⊢
    rw [decide_eq_true hm] at HM
    have hne : nmE s = 31 := by unfold nmE at h ⊢; split at h <;> simp_all
    rw [hne] at HN ⊢
    clear hm h hne
    go_enter Try.func10, Try.ntmps10
    go_wp2_with fail
    refine (HM.out _).mono ?_
    rintro e w' ⟨rfl, rfl⟩
    go_wp2_with fail
    refine (HN.out _).mono ?_
    rintro e w' ⟨rfl, rfl⟩
    go_wp2
    go_ret2
    exact ⟨rfl, (Below.refl _ _).alloc (Nat.le_refl _) _⟩
  · rw [wE_arg hm]
    rw [decide_eq_false hm] at HM
    clear hm h
    go_enter Try.func10, Try.ntmps10
    go_wp2_with fail
    refine (HM.out _).mono ?_
    rintro e w' ⟨rfl, rfl⟩
    go_wp2
    go_ret2
    exact ⟨rfl, (Below.refl _ _).alloc (Nat.le_refl _) _⟩

theorem mk16 (W : World) : (Instr.makeSlice 24 (.int .i64 16) (.int .i64 16)).run Try.prog W = .ok (.slice (some ⟨W.heap.size, 0, none⟩) 16 16) (W.alloc (.cells #[.int .u8 0, .int .u8 0, .int .u8 0, .int .u8 0, .int .u8 0, .int .u8 0, .int .u8 0, .int .u8 0, .int .u8 0, .int .u8 0, .int .u8 0, .int .u8 0, .int .u8 0, .int .u8 0, .int .u8 0, .int .u8 0] 5)) := by
  obtain ⟨i0, hi, hz0, hz1, hz2⟩ := info_parts Try.info8
  have := run_make (P := Try.prog) W 24 5 i0 (.int .u8 0) Try.underlying24 hi hz0 .i64 .i64 16 16 (by omega) (Int.le_refl _) (by rw [hz2]; omega) (by omega)
  rw [this, hz1, show madeCells (Value.int .u8 0).cells (Int.toNat 16 * 1) = #[.int .u8 0, .int .u8 0, .int .u8 0, .int .u8 0, .int .u8 0, .int .u8 0, .int .u8 0, .int .u8 0, .int .u8 0, .int .u8 0, .int .u8 0, .int .u8 0, .int .u8 0, .int .u8 0, .int .u8 0, .int .u8 0] by kernel_rfl]
  rfl

/-- a name laid behind a slot's head -/
theorem run_name {W : World} {g : Nat} {a b c : Int} (s : ByteArray) (hs : s.size ≤ 13) (hB : Blk W g 5 #[.int .u8 a, .int .u8 b, .int .u8 c, .int .u8 0, .int .u8 0, .int .u8 0, .int .u8 0, .int .u8 0, .int .u8 0, .int .u8 0, .int .u8 0, .int .u8 0, .int .u8 0, .int .u8 0, .int .u8 0, .int .u8 0]) :
    ∃ W2, (∀ ty, (Builtin.copy_ #[24, 9] ty #[.slice (some ⟨g, 3, none⟩) 13 13, .string s]).run Try.prog W.drew = .ok (.int .i64 s.size) W2) ∧
      Blk W2 g 5 ((a :: b :: c :: (nb s ++ List.replicate (13 - s.size) 0)).map (Value.int .u8)).toArray ∧ ∀ B w0, Below B w0 W → B ≤ g → Below B w0 W2 := by
  obtain ⟨i0, hi, hz0, hz1, hz2⟩ := info_parts Try.info8
  refine ⟨_, fun ty => Lib.run_copy_row_string W.drew 24 9 ty 5 g 3 13 13 s _ 5 Try.underlying24 (by rw [hi]; simp [hz1]) hB hs (by simp; omega), ?_, fun B w0 h hg => below_setRow h.drew hg _⟩
  have h := setRow_heap W.drew g _ (([Value.int .u8 a, .int .u8 b, .int .u8 c] ++ Lib.byteCells s.data.toList ++ (List.replicate (13 - s.size) (Value.int .u8 0))).toArray) 5 (0, 0) hB
  have e1 : Lib.byteCells s.data.toList = (nb s).map (Value.int .u8) := by
    unfold Lib.byteCells nb
    rw [List.map_map]; rfl
  have e2 : ((a :: b :: c :: (nb s ++ List.replicate (13 - s.size) 0)).map (Value.int .u8)) = [Value.int .u8 a, .int .u8 b, .int .u8 c] ++ Lib.byteCells s.data.toList ++ (List.replicate (13 - s.size) (Value.int .u8 0)) := by
    rw [e1]; simp
  have e3 : (#[Value.int .u8 a, .int .u8 b, .int .u8 c, .int .u8 0, .int .u8 0, .int .u8 0, .int .u8 0, .int .u8 0, .int .u8 0, .int .u8 0, .int .u8 0, .int .u8 0, .int .u8 0, .int .u8 0, .int .u8 0, .int .u8 0] : Array Value).toList.take 3 ++ Lib.byteCells s.data.toList ++ (#[Value.int .u8 a, .int .u8 b, .int .u8 c, .int .u8 0, .int .u8 0, .int .u8 0, .int .u8 0, .int .u8 0, .int .u8 0, .int .u8 0, .int .u8 0, .int .u8 0, .int .u8 0, .int .u8 0, .int .u8 0, .int .u8 0] : Array Value).toList.drop (3 + s.size) = [Value.int .u8 a, .int .u8 b, .int .u8 c] ++ Lib.byteCells s.data.toList ++ (List.replicate (13 - s.size) (Value.int .u8 0)) := by
    have t : (#[Value.int .u8 a, .int .u8 b, .int .u8 c, .int .u8 0, .int .u8 0, .int .u8 0, .int .u8 0, .int .u8 0, .int .u8 0, .int .u8 0, .int .u8 0, .int .u8 0, .int .u8 0, .int .u8 0, .int .u8 0, .int .u8 0] : Array Value).toList = [Value.int .u8 a, .int .u8 b, .int .u8 c] ++ List.replicate 13 (Value.int .u8 0) := rfl
    rw [t, List.drop_append, List.drop_of_length_le (by simp), List.drop_replicate]
    simp
  rw [e3]
  unfold Blk
  rw [e2]
  exact h

set_option maxRecDepth 100000 in
set_option maxHeartbeats 4000000 in
theorem dwrite_yes (i : Int) (s : ByteArray) (w : World) (hm : Mi i) (hn : Nm s) :
    Calls Try.prog 10 #[ev i s] w fun e w' => ∃ g, e = .returned (.tuple #[.slice (some ⟨g, 0, none⟩) 16 16, .int .i64 0]) ∧ Blk w' g 5 ((sb i s).map (Value.int .u8)).toArray ∧ w.heap.size ≤ g ∧ Below w.heap.size w w' := by
  have HM := Lib.hid (fun w => mayBe_any i w)
  have HN := Lib.hid (fun w => name_any s w)
  rw [nm_yes hn] at HN
  rw [decide_eq_true hm] at HM
  unfold ev
  obtain ⟨i0, i1⟩ := hm
  obtain ⟨⟨s0, s1⟩, -⟩ := hn
  go_enter Try.func10, Try.ntmps10
  go_wp2_with fail
  refine (HM.out _).mono ?_
  rintro e w' ⟨rfl, rfl⟩
  go_wp2_with fail
  refine (HN.out _).mono ?_
  rintro e w' ⟨rfl, rfl⟩
  have hmk := mk16
  go_wp2_with fail
  have hmod : i % 256 % 256 = i % 256 := by omega
  go_region
  have B0 : Hid (Below w.heap.size w (((w.alloc (.cells #[.int .i64 i, .string s] 23)).alloc (.cells #[.int .u8 (i % 256), .int .u8 (i / 256), .int .u8 s.size, .int .u8 0, .int .u8 0, .int .u8 0, .int .u8 0, .int .u8 0, .int .u8 0, .int .u8 0, .int .u8 0, .int .u8 0, .int .u8 0, .int .u8 0, .int .u8 0, .int .u8 0] 5)).drew)) := Lib.hid (((Below.refl _ _).alloc (Nat.le_refl _) _).alloc (by simp) _).drew
  have K0 : Hid (Blk (((w.alloc (.cells #[.int .i64 i, .string s] 23)).alloc (.cells #[.int .u8 (i % 256), .int .u8 (i / 256), .int .u8 s.size, .int .u8 0, .int .u8 0, .int .u8 0, .int .u8 0, .int .u8 0, .int .u8 0, .int .u8 0, .int .u8 0, .int .u8 0, .int .u8 0, .int .u8 0, .int .u8 0, .int .u8 0] 5)).drew) w.heap.size 23 #[.int .i64 i, .string s]) := Lib.hid ((Blk.new w _ _).alloc _)
  have K1 : Hid (Blk (((w.alloc (.cells #[.int .i64 i, .string s] 23)).alloc (.cells #[.int .u8 (i % 256), .int .u8 (i / 256), .int .u8 s.size, .int .u8 0, .int .u8 0, .int .u8 0, .int .u8 0, .int .u8 0, .int .u8 0, .int .u8 0, .int .u8 0, .int .u8 0, .int .u8 0, .int .u8 0, .int .u8 0, .int .u8 0] 5)).drew) (w.heap.size + 1) 5 #[.int .u8 (i % 256), .int .u8 (i / 256), .int .u8 s.size, .int .u8 0, .int .u8 0, .int .u8 0, .int .u8 0, .int .u8 0, .int .u8 0, .int .u8 0, .int .u8 0, .int .u8 0, .int .u8 0, .int .u8 0, .int .u8 0, .int .u8 0]) := Lib.hid (by
    have := Blk.new (w.alloc (.cells #[.int .i64 i, .string s] 23)) 5 #[.int .u8 (i % 256), .int .u8 (i / 256), .int .u8 s.size, .int .u8 0, .int .u8 0, .int .u8 0, .int .u8 0, .int .u8 0, .int .u8 0, .int .u8 0, .int .u8 0, .int .u8 0, .int .u8 0, .int .u8 0, .int .u8 0, .int .u8 0]
    rw [World.size_alloc] at this
    exact this)
  generalize ((w.alloc (.cells #[.int .i64 i, .string s] 23)).alloc (.cells #[.int .u8 (i % 256), .int .u8 (i / 256), .int .u8 s.size, .int .u8 0, .int .u8 0, .int .u8 0, .int .u8 0, .int .u8 0, .int .u8 0, .int .u8 0, .int .u8 0, .int .u8 0, .int .u8 0, .int .u8 0, .int .u8 0, .int .u8 0] 5)).drew = W1 at B0 K0 K1 ⊢
  obtain ⟨W2, hrun, hB2, hbel⟩ := run_name s s1 K1.out
  have c0 := K0.out.cell 0
  have c1 := K0.out.cell 1
  simp only [List.getElem?_toArray, List.getElem?_cons_zero, List.getElem?_cons_succ] at c0 c1
  have BB := Lib.hid (hbel w.heap.size w B0.out (Nat.le_succ _))
  have KB := Lib.hid hB2
  clear hbel hB2
  go_wp2_with fail
  go_region
  all_goals
    go_wp2
    go_ret2
    exact ⟨_, rfl, KB.out, Nat.le_succ _, BB.out⟩

end Go.Proofs.Ytbgimehbencdgaa
