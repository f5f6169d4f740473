/-
  The bytes of an inode: what the program's Write answers.
-/
import Derived.Test.YtladgfonkolpmaaInoRight
namespace Inom
open Crcm Tagm
end Inom
namespace Go.Proofs.Ytladgfonkolpmaa
open Go.RowKit Crcm Tagm Inom Go.ChangeShapes

def dsl (i : Ind) : List Int := [i.d0, i.d1, i.d2, i.d3, i.d4, i.d5]
/-- the bytes of an inode -/
def wb (i : Ind) : List Int := [i.k % 256, 0] ++ le 2 i.l ++ le 4 i.s ++ (dsl i).flatMap (le 2) ++ le 2 i.sg ++ le 2 i.db
theorem wb_len (i : Ind) : (wb i).length = 24 := by simp [wb, dsl, le_length]
theorem wb_U8 (i : Ind) : ∀ b ∈ wb i, U8 b := by
  intro b hb
  simp only [wb, dsl, List.mem_append, List.mem_flatMap, List.mem_cons, List.not_mem_nil, or_false] at hb
  rcases hb with ((((h | h) | h) | ⟨x, _, h⟩) | h) | h
  · rcases h with rfl | rfl
    · unfold U8; omega
    · unfold U8; omega
  · exact le_U8 _ _ b h
  · exact le_U8 _ _ b h
  · exact le_U8 _ _ b h
  · exact le_U8 _ _ b h
  · exact le_U8 _ _ b h

theorem Blk.eleven {w : World} {g : Nat} {t : TypeId} {a0 a1 a2 a3 a4 a5 a6 a7 a8 a9 a10 : Value} (h : Blk w g t #[a0, a1, a2, a3, a4, a5, a6, a7, a8, a9, a10]) :
    w.cell? ⟨g, 0, none⟩ = some a0 ∧ w.cell? ⟨g, 1, none⟩ = some a1 ∧ w.cell? ⟨g, 2, none⟩ = some a2 ∧ w.cell? ⟨g, 3, none⟩ = some a3 ∧ w.cell? ⟨g, 4, none⟩ = some a4 ∧ w.cell? ⟨g, 5, none⟩ = some a5 ∧ w.cell? ⟨g, 6, none⟩ = some a6 ∧ w.cell? ⟨g, 7, none⟩ = some a7 ∧ w.cell? ⟨g, 8, none⟩ = some a8 ∧ w.cell? ⟨g, 9, none⟩ = some a9 ∧ w.cell? ⟨g, 10, none⟩ = some a10 :=
  ⟨h.cell 0, h.cell 1, h.cell 2, h.cell 3, h.cell 4, h.cell 5, h.cell 6, h.cell 7, h.cell 8, h.cell 9, h.cell 10⟩

theorem Src.two (w : World) (a b : Int) (m : Nat × Nat) : Src (w.alloc (.cells #[.int .u8 a, .int .u8 b] 5 m)) (some ⟨w.heap.size, 0, none⟩) [a, b] := by
  refine .inr ⟨_, rfl, fun j hj => ?_⟩
  rw [show (⟨w.heap.size, 0, none⟩ : Addr).add j = ⟨w.heap.size, j, none⟩ by (unfold Addr.add; split <;> simp_all), cell_of_row _ _ _ _ _ _ (heap_alloc_new w _)]
  have hj : j < 2 := hj
  rcases (by omega : j = 0 ∨ j = 1) with rfl | rfl <;> rfl

theorem IR.bd {i : Ind} (h : IR i) : (0 ≤ i.k ∧ i.k ≤ 2) ∧ (0 ≤ i.l ∧ i.l ≤ 1000) ∧ (0 ≤ i.s ∧ i.s ≤ 2147483647) ∧ (Pt i.d0 ∧ Pt i.d1 ∧ Pt i.d2 ∧ Pt i.d3 ∧ Pt i.d4 ∧ Pt i.d5) ∧ Pt i.sg ∧ Pt i.db := by
  rcases h with rfl | ⟨h, hs⟩
  · unfold zi Pt; simp
  · exact ⟨by omega, hs.1, hs.2.1, hs.2.2.1, hs.2.2.2⟩

/-- what stands while an inode's bytes are written: the inode's own block, the row so far -/
structure Wst (w W : World) (cs : Array Value) (v : Value) (n : Nat) (xs : List Int) : Prop where
  a : Blk W w.heap.size 65 cs
  o : W.ownsRow (w.heap.size + 1) 5 1 v n (xs.map (Value.int .u8))
  b : Below w.heap.size w W
  s : w.heap.size + 1 ≤ W.heap.size
theorem Wst.next {w W W' : World} {cs : Array Value} {v v' : Value} {n n' : Nat} {xs xs' : List Int} (h : Wst w W cs v n xs) (ho : W'.ownsRow (w.heap.size + 1) 5 1 v' n' (xs'.map (Value.int .u8))) (hb : Below (w.heap.size + 1) W W') : Wst w W' cs v' n' xs' :=
  ⟨h.a.below hb (Nat.lt_succ_self _), ho, h.b.trans (hb.mono (Nat.le_succ _)), Nat.le_trans h.s hb.size⟩

theorem iwrite_no (i : Ind) (w : World) (h : ¬ IR i) : Calls Try.prog 37 #[iv i] w fun e w' => e = .returned (.tuple #[.slice none 0 0, .int .i64 51]) ∧ Below w.heap.size w w' := by
  have HR := Lib.hid (fun w => iright_any i w)
  rw [decide_eq_false h] at HR
  clear h
  unfold iv at *
  go_enter Try.func37, Try.ntmps37
  go_wp2_with fail
  refine (HR.out _).mono ?_
  rintro e w1 ⟨rfl, hb1⟩
  go_wp2
  go_ret2
  exact ⟨rfl, ((Below.refl _ _).alloc (Nat.le_refl _) _).trans (hb1.mono (by simp))⟩

theorem Pt.u {n : Int} (h : Pt n) : U64 n ∧ n ≤ 4611686018427387903 := by unfold Pt at h; unfold U64; omega

set_option maxRecDepth 100000 in
set_option maxHeartbeats 4000000 in
theorem iwrite_yes (i : Ind) (w : World) (h : IR i) : Calls Try.prog 37 #[iv i] w fun e w' => ∃ v, e = .returned (.tuple #[v, .int .i64 0]) ∧
      w'.ownsRow (w.heap.size + 1) 5 1 v 24 ((wb i).map (Value.int .u8)) ∧ Below w.heap.size w w' := by
  obtain ⟨i0, hi, hz0, hz1, hz2⟩ := info_parts Try.info8
  have HR := Lib.hid (fun w => iright_any i w)
  rw [decide_eq_true h] at HR
  obtain ⟨hk, hl, hs, ⟨p0, p1, p2, p3, p4, p5⟩, ps, pd⟩ := h.bd
  clear h
  obtain ⟨k, l, s, d0, d1, d2, d3, d4, d5, sg, db⟩ := i
  unfold iv at *
  simp only at hk hl hs p0 p1 p2 p3 p4 p5 ps pd
  obtain ⟨hk0, hk1⟩ := hk
  obtain ⟨hl0, hl1⟩ := hl
  have hS := Lib.hid hs
  clear hs
  go_enter Try.func37, Try.ntmps37
  have A0 := Lib.hid (Blk.new w 65 #[.int .i64 k, .int .i64 l, .int .i64 s, .int .i64 d0, .int .i64 d1, .int .i64 d2, .int .i64 d3, .int .i64 d4, .int .i64 d5, .int .i64 sg, .int .i64 db])
  go_wp2_with fail
  refine (HR.out _).mono ?_
  rintro e w1 ⟨rfl, hb1⟩
  have A1 := Lib.hid (A0.out.below hb1 A0.out.lt)
  have hs1 := hb1.size
  simp at hs1
  have HB1 := Lib.hid hb1
  clear A0 hb1 HR
  go_wp2_with (at_make; refine wpList_make_own _ rfl _ _ 22 rfl (w.heap.size + 1) 5 i0 (.int .u8 0) 1 Try.underlying22 hi hz0 hz1 _ _ _ 24 rfl rfl ?c0 ?c1 ?c2 ?c3 ?_)
  case c0 => rfl
  case c1 => rw [hz2]; omega
  case c2 => unfold maxLen; omega
  case c3 => omega
  intro w2 hown2 hg2
  have hb2 : Below (w.heap.size + 1) w1 w2 := (Below.refl _ _).grown hg2 hs1 (fun g hg => by cases hg)
  have hs2 : w.heap.size + 1 ≤ w2.heap.size := Nat.le_trans hs1 hb2.size
  have A2 := Lib.hid (A1.out.below hb2 (by omega))
  have HB2 := Lib.hid hb2
  have HO2 := Lib.hid hown2
  obtain ⟨c0, -⟩ := A2.out.eleven
  have hS2 := Src.two w2 k 0 (0, 0)
  clear hg2 hb2 hown2
  go_wp2_with (at_builtin; refine append_bytes rfl _ _ rfl (w.heap.size + 1) _ _ [] rfl (HO2.out.alloc _) (some ⟨w2.heap.size, 0, none⟩) 2 2 [k, 0] rfl rfl hS2 (by omega) (by simp; omega) ?_)
  intro v3 w3 hown3 hb3
  have hb03 : Below w.heap.size w w2 := ((Below.refl _ _).alloc (Nat.le_refl _) _).trans ((HB1.out.mono (by simp)).trans (HB2.out.mono (by omega)))
  have ST2 : Wst w (w2.alloc (.cells #[.int .u8 k, .int .u8 0] 5)) #[.int .i64 k, .int .i64 l, .int .i64 s, .int .i64 d0, .int .i64 d1, .int .i64 d2, .int .i64 d3, .int .i64 d4, .int .i64 d5, .int .i64 sg, .int .i64 db] _ 0 [] := ⟨A2.out.alloc _, HO2.out.alloc _, hb03.alloc hb03.size _, by simp; omega⟩
  have hown3' : w3.ownsRow (w.heap.size + 1) 5 1 v3 2 (([k, 0] : List Int).map (Value.int .u8)) := by simpa using hown3
  have ST := Lib.hid (ST2.next hown3' hb3)
  clear hown3 hown3' hb3 hS2 A2 HO2 HB2 ST2 hb03 c0 HB1 A1 hs1 hs2
  obtain ⟨c0, c1, c2, c3, c4, c5, c6, c7, c8, c9, c10⟩ := ST.out.a.eleven
  go_wp2_with fail
  refine (iput_any (w.heap.size + 1) _ _ _ l 2 _ (by unfold U64; omega) (by omega) (by omega) (by omega) ST.out.o ST.out.s).mono ?_
  rintro r w4 ⟨v4, rfl, ho, hb⟩
  have ST4 := Lib.hid (ST.out.next ho hb)
  clear ho hb ST c0 c1 c2 c3 c4 c5 c6 c7 c8 c9 c10
  obtain ⟨c0, c1, c2, c3, c4, c5, c6, c7, c8, c9, c10⟩ := ST4.out.a.eleven
  go_wp2_with fail
  refine (iput_any (w.heap.size + 1) _ _ _ s 4 _ (by have := hS.out; unfold U64; omega) (by have := hS.out; omega) (by omega) (by omega) ST4.out.o ST4.out.s).mono ?_
  rintro r w5 ⟨v5, rfl, ho, hb⟩
  have ST5 := Lib.hid (ST4.out.next ho hb)
  clear ho hb ST4 c0 c1 c2 c3 c4 c5 c6 c7 c8 c9 c10
  obtain ⟨c0, c1, c2, c3, c4, c5, c6, c7, c8, c9, c10⟩ := ST5.out.a.eleven
  go_wp2_with fail
  clear c0 c1 c2 c3 c4 c5 c6 c7 c8 c9 c10
  go_loopw [4, 27] (fun v i wr => ∃ n : Nat, n ≤ 6 ∧ i = .int .i64 n ∧ Hid (Wst w wr #[.int .i64 k, .int .i64 l, .int .i64 s, .int .i64 d0, .int .i64 d1, .int .i64 d2, .int .i64 d3, .int .i64 d4, .int .i64 d5, .int .i64 sg, .int .i64 db] v (8 + 2 * n) ([k, 0] ++ le 2 l ++ le 4 s ++ ([d0, d1, d2, d3, d4, d5].take n).flatMap (le 2)))) (fun _ i _ => 6 - (intOf i).toNat)
  case atStart => exact ⟨0, by omega, rfl, Lib.hid (by simpa using ST5.out)⟩
  case round =>
    obtain ⟨n, hn, rfl, hO⟩ := hrel
    clear ST5
    have hc : n = 0 ∨ n = 1 ∨ n = 2 ∨ n = 3 ∨ n = 4 ∨ n = 5 ∨ n = 6 := by omega
    rcases hc with rfl | rfl | rfl | rfl | rfl | rfl | rfl
    · have hi := fun w => idx0 d0 d1 d2 d3 d4 d5 w
      go_wp2_with fail
      refine (iput_any (w.heap.size + 1) _ _ _ d0 2 _ p0.u.1 p0.u.2 (by omega) (by omega) hO.out.o hO.out.s).mono ?_
      rintro r w6 ⟨v6, rfl, ho, hb⟩
      have hN := Lib.hid (hO.out.next ho hb)
      clear ho hb hO
      go_wp2
      go_roundw
      case rel => exact ⟨1, by omega, rfl, Lib.hid (by have h := hN.out; rw [List.append_assoc] at h; simpa using h)⟩
      case measure => simp [intOf]
    · have hi := fun w => idx1 d0 d1 d2 d3 d4 d5 w
      go_wp2_with fail
      refine (iput_any (w.heap.size + 1) _ _ _ d1 2 _ p1.u.1 p1.u.2 (by omega) (by omega) hO.out.o hO.out.s).mono ?_
      rintro r w6 ⟨v6, rfl, ho, hb⟩
      have hN := Lib.hid (hO.out.next ho hb)
      clear ho hb hO
      go_wp2
      go_roundw
      case rel => exact ⟨2, by omega, rfl, Lib.hid (by have h := hN.out; rw [List.append_assoc] at h; simpa using h)⟩
      case measure => simp [intOf]
    · have hi := fun w => idx2 d0 d1 d2 d3 d4 d5 w
      go_wp2_with fail
      refine (iput_any (w.heap.size + 1) _ _ _ d2 2 _ p2.u.1 p2.u.2 (by omega) (by omega) hO.out.o hO.out.s).mono ?_
      rintro r w6 ⟨v6, rfl, ho, hb⟩
      have hN := Lib.hid (hO.out.next ho hb)
      clear ho hb hO
      go_wp2
      go_roundw
      case rel => exact ⟨3, by omega, rfl, Lib.hid (by have h := hN.out; rw [List.append_assoc] at h; simpa using h)⟩
      case measure => simp [intOf]
    · have hi := fun w => idx3 d0 d1 d2 d3 d4 d5 w
      go_wp2_with fail
      refine (iput_any (w.heap.size + 1) _ _ _ d3 2 _ p3.u.1 p3.u.2 (by omega) (by omega) hO.out.o hO.out.s).mono ?_
      rintro r w6 ⟨v6, rfl, ho, hb⟩
      have hN := Lib.hid (hO.out.next ho hb)
      clear ho hb hO
      go_wp2
      go_roundw
      case rel => exact ⟨4, by omega, rfl, Lib.hid (by have h := hN.out; rw [List.append_assoc] at h; simpa using h)⟩
      case measure => simp [intOf]
    · have hi := fun w => idx4 d0 d1 d2 d3 d4 d5 w
      go_wp2_with fail
      refine (iput_any (w.heap.size + 1) _ _ _ d4 2 _ p4.u.1 p4.u.2 (by omega) (by omega) hO.out.o hO.out.s).mono ?_
      rintro r w6 ⟨v6, rfl, ho, hb⟩
      have hN := Lib.hid (hO.out.next ho hb)
      clear ho hb hO
      go_wp2
      go_roundw
      case rel => exact ⟨5, by omega, rfl, Lib.hid (by have h := hN.out; rw [List.append_assoc] at h; simpa using h)⟩
      case measure => simp [intOf]
    · have hi := fun w => idx5 d0 d1 d2 d3 d4 d5 w
      go_wp2_with fail
      refine (iput_any (w.heap.size + 1) _ _ _ d5 2 _ p5.u.1 p5.u.2 (by omega) (by omega) hO.out.o hO.out.s).mono ?_
      rintro r w6 ⟨v6, rfl, ho, hb⟩
      have hN := Lib.hid (hO.out.next ho hb)
      clear ho hb hO
      go_wp2
      go_roundw
      case rel => exact ⟨6, by omega, rfl, Lib.hid (by have h := hN.out; rw [List.append_assoc] at h; simpa using h)⟩
      case measure => simp [intOf]
    · obtain ⟨c0, c1, c2, c3, c4, c5, c6, c7, c8, c9, c10⟩ := hO.out.a.eleven
      go_wp2_with fail
      refine (iput_any (w.heap.size + 1) _ _ _ sg 2 _ ps.u.1 ps.u.2 (by omega) (by omega) hO.out.o hO.out.s).mono ?_
      rintro r w6 ⟨v6, rfl, ho, hb⟩
      have hN := Lib.hid (hO.out.next ho hb)
      clear ho hb hO c0 c1 c2 c3 c4 c5 c6 c7 c8 c9 c10
      obtain ⟨c0, c1, c2, c3, c4, c5, c6, c7, c8, c9, c10⟩ := hN.out.a.eleven
      go_wp2_with fail
      refine (iput_any (w.heap.size + 1) _ _ _ db 2 _ pd.u.1 pd.u.2 (by omega) (by omega) hN.out.o hN.out.s).mono ?_
      rintro r w7 ⟨v7, rfl, ho, hb⟩
      have hM := Lib.hid (hN.out.next ho hb)
      clear ho hb hN c0 c1 c2 c3 c4 c5 c6 c7 c8 c9 c10
      go_wp2
      go_ret2
      refine ⟨v7, rfl, ?_, hM.out.b⟩
      have h := hM.out.o
      have e : k % 256 = k := by omega
      have e2 : wb ⟨k, l, s, d0, d1, d2, d3, d4, d5, sg, db⟩ = [k, 0] ++ le 2 l ++ le 4 s ++ ([d0, d1, d2, d3, d4, d5].take 6).flatMap (le 2) ++ le 2 sg ++ le 2 db := by
        unfold wb dsl
        simp only [e]
        rfl
      rw [e2]
      exact h

end Go.Proofs.Ytladgfonkolpmaa
