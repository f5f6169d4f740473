/-
  The codes of a row of blocks: the program's.
-/
import Derived.Test.YtdcpbbfaakddaaaEccRowQ
import Derived.Test.YtdcpbbfaakddaaaEccRowsM
import Derived.RangeFuncNested
import Derived.RangeFuncWrites
namespace Go.Proofs.Ytdcpbbfaakddaaa
open Go.RowKit Go.Shelf Crcm Tagm Eccm Go.ChangeShapes

attribute [local go_sem] Oper.semAt_some

theorem mk0 (n : Nat) (hn : n ≤ 100000) (W : World) : (Instr.makeSlice 22 (.int .i64 0) (.int .i64 n)).run Try.prog W = .ok (.slice (some ⟨W.heap.size, 0, none⟩) 0 n) (W.alloc (.cells (Array.replicate n (Value.int .u8 0)) 5)) := by
  obtain ⟨i0, hi, hz0, hz1, hz2⟩ := info_parts Try.info8
  have := run_make (P := Try.prog) W 22 5 i0 (.int .u8 0) Try.underlying22 hi hz0 .i64 .i64 0 (n : Int) (by omega) (by omega) (by rw [hz2]; omega) (by omega)
  rw [this, hz1]
  have e : madeCells (Value.int .u8 0).cells (Int.toNat (n : Int) * 1) = Array.replicate n (Value.int .u8 0) := by
    apply Array.toList_inj.1
    rw [show Int.toNat (n : Int) * 1 = n by omega]
    show (madeCells #[Value.int .u8 0] n).toList = _
    rw [toList_madeCells_one, Array.toList_replicate]
  rw [e]
  simp
theorem own_mk0 (n : Nat) (hn : n ≤ 100000) (W : World) : (W.alloc (.cells (Array.replicate n (Value.int .u8 0)) 5)).ownsRow W.heap.size 5 1 (.slice (some ⟨W.heap.size, 0, none⟩) 0 n) 0 (([] : List Int).map (Value.int .u8)) := by
  refine ⟨by simp, .inr ⟨W.heap.size, n, _, rfl, Nat.le_refl _, Blk.new W 5 (Array.replicate n (Value.int .u8 0)), Nat.zero_le _, by unfold maxLen; omega, by simp, ?_⟩⟩
  simp

theorem codes_no (a : Option Addr) (L c : Nat) (N : Int) (w : World) (hL : L ≤ maxLen) (h : ¬ (1 ≤ N ∧ N ≤ 4096 ∧ L ≤ 65536)) :
    Calls Try.prog 16 #[.slice a L c, .int .i64 N] w fun e w' => e = .returned (.tuple #[.slice none 0 0, .int .i64 1]) ∧ w = w' := by
  have HR := Lib.hid (row_no a L c N w hL h)
  clear h hL
  go_enter Try.func16, Try.ntmps16
  go_wp2_with fail
  refine HR.out.mono ?_
  rintro e w2 ⟨rfl, rfl⟩
  go_wp2
  go_ret2
  exact ⟨rfl, rfl⟩

set_option maxRecDepth 100000 in
set_option maxHeartbeats 2000000 in
theorem codes_yes (b off : Nat) (a : Option Addr) (L c n : Nat) (l : List Int) (w : World) (hr : Rw w a l) (hl : l.length = L) (ha : L = 0 ∨ a = some ⟨b, off, none⟩) (hL : L ≤ 900) (hLc : L ≤ c) (h1 : 1 ≤ n) (h2 : n ≤ 4096) :
    Calls Try.prog 16 #[.slice a L c, .int .i64 n] w fun e w' => (∃ A cap, e = .returned (.tuple #[.slice A (4 * nbk L n) cap, .int .i64 0]) ∧ Rw w' A (cl l n (List.range (nbk L n)))) ∧ Below w.heap.size w w' := by
  have hb : nbk L n ≤ L := by
    unfold nbk
    rw [Nat.div_le_iff_le_mul_add_pred (by omega)]
    have : L ≤ n * L := Nat.le_mul_of_pos_left L (by omega)
    omega
  have HR := Lib.hid (row_yes a L c n w h1 h2 (by omega))
  have HS := Lib.hid (csize_any a L c n w h1 h2 (by omega))
  obtain ⟨M, hM⟩ : ∃ M, nbk L n = M := ⟨_, rfl⟩
  rw [hM] at HS hb
  have hM9 : M ≤ 900 := by omega
  have HMk := Lib.hid (mk0 (4 * M) (by omega) w)
  have HO := Lib.hid fun w => (callsIn_wide (n := 5)).1 (chunkOf_in 5 a L c n w h1 h2)
  obtain ⟨Z, hZ⟩ : ∃ Z, 4 * M = Z := ⟨_, rfl⟩
  rw [hZ] at HS HMk
  have hmk := HMk.out
  clear HMk
  refine (callsIn_wide (n := 5)).1 ?_
  refine callsIn_of_wp_marks Try.func16 rfl trivial ?_ rfl
  simp only [Try.ntmps16, List.size_toArray, List.length_cons, List.length_nil, Nat.reduceAdd, Nat.reduceSub, Array.replicate_succ, Array.replicate_zero, List.push_toArray, List.append_toArray, List.nil_append, List.cons_append]
  refine wpIn_wide.2 ?_
  go_wp2_with fail
  refine HR.out.mono ?_
  rintro e w' ⟨rfl, rfl⟩
  go_wp2_with fail
  refine HS.out.mono ?_
  rintro e w' ⟨rfl, rfl⟩
  go_wp2_with fail
  refine (HO.out _).mono ?_
  rintro e w' ⟨rfl, rfl⟩
  go_wp2_with fail
  obtain ⟨S, hS⟩ : ∃ S, w.heap.size = S := ⟨_, rfl⟩
  obtain ⟨W4, hW4⟩ : ∃ W4, ((((w.alloc (.cells (Array.replicate Z (Value.int .u8 0)) 5)).alloc (.cells #[.slice (some ⟨w.heap.size, 0, none⟩) 0 Z] 22)).alloc (.cells #[.slice a L c] 22)).alloc (.cells #[.int .i64 n] 3)) = W4 := ⟨_, rfl⟩
  have hz4 : W4.heap.size = S + 4 := by rw [← hW4]; simp; omega
  have hB4 : Below S w W4 := by rw [← hW4, ← hS]; exact ((((Below.refl _ w).alloc (Nat.le_refl _) _).alloc (by simp) _).alloc (by simp; omega) _).alloc (by simp; omega) _
  have bO : W4.ownsRow S 5 1 (.slice (some ⟨S, 0, none⟩) 0 Z) 0 (([] : List Int).map (Value.int .u8)) := by
    rw [← hW4, ← hS]; exact (((own_mk0 Z (by omega) w).alloc _).alloc _).alloc _
  have bC : Boxed W4 (S + 1) 22 (.slice (some ⟨S, 0, none⟩) 0 Z) := by
    have := ((Boxed.new (w.alloc (.cells (Array.replicate Z (Value.int .u8 0)) 5)) 22 (.slice (some ⟨w.heap.size, 0, none⟩) 0 Z)).alloc (.cells #[.slice a L c] 22)).alloc (.cells #[.int .i64 n] 3)
    rw [World.size_alloc, hS] at this; rw [hS] at hW4; rw [hW4] at this; exact this
  have bP : W4.cell? ⟨S + 1 + 1, 0, none⟩ = some (.slice a L c) := by
    have := ((Boxed.new ((w.alloc (.cells (Array.replicate Z (Value.int .u8 0)) 5)).alloc (.cells #[.slice (some ⟨w.heap.size, 0, none⟩) 0 Z] 22)) 22 (.slice a L c))).alloc (.cells #[.int .i64 n] 3)
    rw [hW4, World.size_alloc, World.size_alloc, hS] at this; exact this.cell
  have bQ : W4.cell? ⟨S + 1 + 1 + 1, 0, none⟩ = some (.int .i64 n) := by
    have := Boxed.new (((w.alloc (.cells (Array.replicate Z (Value.int .u8 0)) 5)).alloc (.cells #[.slice (some ⟨w.heap.size, 0, none⟩) 0 Z] 22)).alloc (.cells #[.slice a L c] 22)) 3 (.int .i64 n)
    rw [hW4, World.size_alloc, World.size_alloc, World.size_alloc, hS] at this; exact this.cell
  rw [hW4, hS]
  have HSeq := Lib.hid (chunk_stops 4 (by omega) (S + 1 + 1) (S + 1 + 1 + 1) b off L c n a ha (by omega) hLc h1 h2 W4 (by omega) (by omega) bP bQ)
  have HRl := Lib.hid fun (W : World) (h : Below S w W) (x : Nat) => ck_rw (W := W) (x := x) (n := n) (b := b) (off := off) (hr.below (hS ▸ h)) (hl ▸ ha)
  refine (wpIn_wide (n := 5)).1 ?_
  refine wpIn_rangeFunc_ownF rfl (by omega) (gf := 41) (lb := #[.pointer (some ⟨S + 1 + 1, 0, none⟩), .pointer (some ⟨S + 1 + 1 + 1, 0, none⟩)]) rfl trivial (enters_of Try.func41 (by kernel_rfl) rfl)
    HSeq.out K2.trans (fun W y o o' hy ho _ _ => ⟨World.putObj_heap_other (by omega), World.putObj_heap_other (by omega)⟩) (Below.refl _ _) (fun _ => rfl)
    (fun pre W => (∃ v, Boxed W (S + 1) 22 v ∧ W.ownsRow S 5 1 v (4 * pre.length) ((cl l n pre).map (Value.int .u8)) ∧ v = .slice (some ⟨S, 0, none⟩) (4 * pre.length) Z) ∧ S + 4 ≤ W.heap.size ∧ Below S w W)
    (fun _ _ _ => False)
    (OwnFrom.and (Own.from (holdsRow_own S (S + 1) 22 5 1 (fun (pre : List Nat) => 4 * pre.length) (fun pre => (cl l n pre).map (Value.int .u8)) (fun (pre : List Nat) v => v = .slice (some ⟨S, 0, none⟩) (4 * pre.length) Z)) _) (OwnFrom.and (fun _ _ _ _ hs hg _ => Nat.le_trans hs hg.size) (ownFrom_below (by omega) (by omega))))
    (fun _ => ownFrom_pure _ (fun _ => False))
    ⟨⟨_, bC, bO, rfl⟩, by omega, hB4⟩
    (fun x => { tmps := #[.slice a L c, .int .i64 n, undef, undef, .slice none 0 0, .int .i64 0, .pointer (some ⟨S + 1, 0, none⟩), bsl b off L n x, undef, undef, .slice a L c, .int .i64 n, .bool true, .bool false, .slice a L c, .int .i64 n, .int .i64 Z, .slice (some ⟨S, 0, none⟩) 0 Z, .slice a L c, .int .i64 n, .func (.func 41) #[] #[.pointer (some ⟨S + 1 + 1, 0, none⟩), .pointer (some ⟨S + 1 + 1 + 1, 0, none⟩)], bsl b off L n x, undef, undef, undef, undef, undef, undef, undef, undef, undef, undef, undef, undef, undef, undef, undef], defers := [] })
    ?assign ?body ?done ?stop
  case assign =>
    rintro y x W K hK
    gi_wp2
    exact hK
  case body =>
    obtain ⟨i0, hi, hz0, hz1, hz2⟩ := info_parts Try.info8
    rintro y pre x W ⟨⟨v, hBx, hOw, rfl⟩, hWz, hB⟩ hlt
    have HC := Lib.hid (codeOf_any b (off + x * n) (bln L n x) (bln L n x) (ck l n x) W (HRl.out W hB x) (ck_length hl) (by unfold bln; split <;> omega))
    have hck : (ck l n x).length ≤ 4096 := by rw [ck_length hl]; split <;> omega
    have HX : Hid (cl l n (pre ++ [x]) = cl l n pre ++ le 4 (cb (ck l n x))) := Lib.hid (cl_snoc l n pre x)
    have hD17 := cb_lt hck
    have HXl : Hid ((pre ++ [x]).length = pre.length + 1) := Lib.hid (by simp)
    have hmZ : 4 * pre.length + 4 ≤ Z := by omega
    generalize cb (ck l n x) = D at HC HX hD17
    obtain ⟨m, hm⟩ : ∃ m, 4 * pre.length = m := ⟨_, rfl⟩
    rw [hm] at hBx hOw hmZ
    have HM := Lib.hid hm
    have HD := Lib.hid hD17
    have hBx' := Lib.hid hBx
    have hOw' := Lib.hid hOw
    have hB' := Lib.hid hB
    have hWz' := Lib.hid hWz
    have hD62 : (D : Int) ≤ 4611686018427387903 := by omega
    have hZ4 : Z ≤ 3600 := by omega
    clear hD17 hBx hOw hB hck hm
    gi_wp2_with (refine ⟨trivial, ?_⟩; gi_at_call 24; refine (CallsIn.inRound y (callsIn_wide.2 HC.out)).mono ?_; rintro e w2 ⟨rfl, hb2⟩)
    gi_loopw [24] (fun j wr => ∃ k : Nat, k ≤ 4 ∧ j = .int .i64 k ∧ Hid (Boxed wr (S + 1) 22 (.slice (some ⟨S, 0, none⟩) (m + k) Z)) ∧ Hid (wr.ownsRow S 5 1 (.slice (some ⟨S, 0, none⟩) (m + k) Z) (m + k) ((cl l n pre ++ le k (D : Int)).map (Value.int .u8))) ∧ Hid (KeepsOthers W wr) ∧ Hid (K2 (S + 1 + 1) (S + 1 + 1 + 1) W wr) ∧ Hid (Below S w wr) ∧ Hid (S + 4 ≤ wr.heap.size)) (fun j _ => 4 - (intOf j).toNat)
    case atStart =>
      refine ⟨0, by omega, rfl, Lib.hid ((hb2.block _ (by have := hWz'.out; omega)).trans hBx'.out), Lib.hid ?_, Lib.hid ⟨hb2.size, fun k o hk _ => (hb2.block k (Array.getElem?_eq_some_iff.1 hk).1).trans hk⟩, Lib.hid ⟨hb2.block _ (by have := hWz'.out; omega), hb2.block _ (by have := hWz'.out; omega)⟩, Lib.hid (hB'.out.trans (hb2.mono (by have := hWz'.out; omega))), Lib.hid (Nat.le_trans hWz'.out hb2.size)⟩
      simpa [le] using own_below hOw'.out hb2
    case round =>
      obtain ⟨k, hk, rfl, hBo, hRo, hKO, hK2, hBl, hSz⟩ := hrel
      by_cases hlt4 : k < 4
      · have cb1 := hBo.out.cell
        have fb1 := hBo.out.frozen
        obtain ⟨K8, hK8⟩ : ∃ K8 : Nat, K8 = 8 * k := ⟨_, rfl⟩
        obtain ⟨E, hE⟩ : ∃ E : Nat, E = D / 2 ^ K8 := ⟨_, rfl⟩
        have ew : IntKind.i64.wrap (8 * (k : Int)) = (K8 : Int) := by rw [IntKind.wrap_i64]; omega
        have es : Op.shift .shr .u32 (D : Int) .i64 (K8 : Int) = pure (.int .u32 (E : Int)) := by
          rw [shift_shr .u32 .i64 (D : Int) (K8 : Int) (by omega) (by show ((K8 : Int) ≤ 32); omega), hE, Int.toNat_natCast, Int.natCast_ediv]
          simp
        obtain ⟨F, hF⟩ : ∃ F : Nat, F = E % 256 := ⟨_, rfl⟩
        have ew2 : IntKind.u8.wrap (E : Int) = (F : Int) := by rw [IntKind.wrap_u8', hF]; omega
        have hfit : m + k + 1 ≤ Z := by omega
        have hsz := hSz.out
        -- the worlds of the region
        have ow1 : (wr.alloc (.cells #[.int .u8 (F : Int)] 5)).ownsRow S 5 1 (.slice (some ⟨S, 0, none⟩) (m + k) Z) (m + k) ((cl l n pre ++ le k (D : Int)).map (Value.int .u8)) := hRo.out.alloc _
        obtain ⟨v0, c1⟩ := own_room ow1 hfit
        have f1 := ow1.frozenAt (m + k)
        have bx1 : Boxed (wr.alloc (.cells #[.int .u8 (F : Int)] 5)) (S + 1) 22 (.slice (some ⟨S, 0, none⟩) (m + k) Z) := hBo.out.alloc _
        have c3 := bx1.cell
        have f3 := bx1.frozen
        have HF := Lib.hid hF
        have HE := Lib.hid hE
        have HK8 := Lib.hid hK8
        have OW := Lib.hid ow1
        have BX := Lib.hid bx1
        clear hF hE hK8 ow1 bx1
        gi_wp2_with fail
        have ow2 := own_push OW.out hfit (.int .u8 (F : Int))
        have bx2 := boxed_other (o := m + k) BX.out (show S + 1 ≠ S by omega) (.int .u8 (F : Int))
        have HFIN : Hid (Boxed ((((wr.alloc (.cells #[.int .u8 (F : Int)] 5)).setCell ⟨S, m + k, none⟩ (.int .u8 (F : Int))).setCell ⟨S + 1, 0, none⟩ (.slice (some ⟨S, 0, none⟩) (m + k + 1) Z)).drew) (S + 1) 22 (.slice (some ⟨S, 0, none⟩) (m + (k + 1)) Z) ∧ ((((wr.alloc (.cells #[.int .u8 (F : Int)] 5)).setCell ⟨S, m + k, none⟩ (.int .u8 (F : Int))).setCell ⟨S + 1, 0, none⟩ (.slice (some ⟨S, 0, none⟩) (m + k + 1) Z)).drew).ownsRow S 5 1 (.slice (some ⟨S, 0, none⟩) (m + (k + 1)) Z) (m + (k + 1)) ((cl l n pre ++ le (k + 1) (D : Int)).map (Value.int .u8))
            ∧ KeepsOthers W ((((wr.alloc (.cells #[.int .u8 (F : Int)] 5)).setCell ⟨S, m + k, none⟩ (.int .u8 (F : Int))).setCell ⟨S + 1, 0, none⟩ (.slice (some ⟨S, 0, none⟩) (m + k + 1) Z)).drew) ∧ K2 (S + 1 + 1) (S + 1 + 1 + 1) W ((((wr.alloc (.cells #[.int .u8 (F : Int)] 5)).setCell ⟨S, m + k, none⟩ (.int .u8 (F : Int))).setCell ⟨S + 1, 0, none⟩ (.slice (some ⟨S, 0, none⟩) (m + k + 1) Z)).drew)
            ∧ Below S w ((((wr.alloc (.cells #[.int .u8 (F : Int)] 5)).setCell ⟨S, m + k, none⟩ (.int .u8 (F : Int))).setCell ⟨S + 1, 0, none⟩ (.slice (some ⟨S, 0, none⟩) (m + k + 1) Z)).drew) ∧ S + 4 ≤ ((((wr.alloc (.cells #[.int .u8 (F : Int)] 5)).setCell ⟨S, m + k, none⟩ (.int .u8 (F : Int))).setCell ⟨S + 1, 0, none⟩ (.slice (some ⟨S, 0, none⟩) (m + k + 1) Z)).drew).heap.size) := Lib.hid (by
          refine ⟨bx2.set _, ?_, ?_, ?_, ?_, ?_⟩
          · have e1 : (cl l n pre ++ le (k + 1) (D : Int)).map (Value.int .u8) = (cl l n pre ++ le k (D : Int)).map (Value.int .u8) ++ [.int .u8 (F : Int)] := by
              rw [le_snoc, ← List.append_assoc, List.map_append]
              congr 2
              rw [HF.out, HE.out, HK8.out, Nat.pow_mul]
              simp
            rw [e1]
            have := own_keep ow2 (g := S + 1) (o := 0) (by omega) (.slice (some ⟨S, 0, none⟩) (m + k + 1) Z)
            exact own_below this (Below.drew (Below.refl _ _))
          · have k1 := ((hKO.out.trans (KeepsOthers.alloc wr (.cells #[.int .u8 (F : Int)] 5))).trans (KeepsOthers.setCell _ ⟨S, m + k, none⟩ (.int .u8 (F : Int)))).trans (KeepsOthers.setCell _ ⟨S + 1, 0, none⟩ (.slice (some ⟨S, 0, none⟩) (m + k + 1) Z))
            exact ⟨k1.size, k1.same⟩
          · have hh := hSz.out
            exact ⟨((Below.heap_setCell _ ⟨S + 1, 0, none⟩ _ _ (by show S + 1 + 1 ≠ S + 1; omega)).trans ((Below.heap_setCell _ ⟨S, m + k, none⟩ _ _ (by show S + 1 + 1 ≠ S; omega)).trans (Below.heap_alloc _ _ _ (by omega)))).trans hK2.out.1,
              ((Below.heap_setCell _ ⟨S + 1, 0, none⟩ _ _ (by show S + 1 + 1 + 1 ≠ S + 1; omega)).trans ((Below.heap_setCell _ ⟨S, m + k, none⟩ _ _ (by show S + 1 + 1 + 1 ≠ S; omega)).trans (Below.heap_alloc _ _ _ (by omega)))).trans hK2.out.2⟩
          · exact (((hBl.out.alloc (by have := hSz.out; omega) _).setCell (p := ⟨S, m + k, none⟩) (Nat.le_refl _) _).setCell (p := ⟨S + 1, 0, none⟩) (by show S ≤ S + 1; omega) _).drew
          · simp [World.setCell]; have := hSz.out; omega)
        clear ow2 bx2
        gi_region_with (fail)
        all_goals
          gi_wp2
          go_roundw
          case rel => exact ⟨k + 1, by omega, by go_num, Lib.hid HFIN.out.1, Lib.hid HFIN.out.2.1, Lib.hid HFIN.out.2.2.1, Lib.hid HFIN.out.2.2.2.1, Lib.hid HFIN.out.2.2.2.2.1, Lib.hid HFIN.out.2.2.2.2.2⟩
          case measure => simp [intOf]; omega
      · have hk4 : k = 4 := by omega
        subst hk4
        gi_wp2
        refine ⟨hKO.out, hK2.out, ⟨_, hBo.out, ?_, by rw [HXl.out]; congr 1; have := HM.out; omega⟩, hSz.out, hBl.out⟩
        rw [HX.out, HXl.out, show 4 * (pre.length + 1) = m + 4 by have := HM.out; omega]
        exact hRo.out
  case done =>
    rintro D ys W hD rfl ⟨⟨v, hBx, hOw, rfl⟩, hWz, hB⟩ hK
    rw [List.length_range, hM] at hBx hOw
    have hcb := hBx.cell
    have hOw2 := hOw.kept (grownBy_putObj' W D (.deferred none)) (.inr (by simp [Value.ownBlock]; omega))
    obtain ⟨A, cap, he, hR, -, -⟩ := Rw.of_own hOw2 (cl_U8 l n _)
    injection he with e1 e2 e3
    subst e1 e3
    have HR2 := Lib.hid hR
    have HB := Lib.hid hB
    clear hOw2 hR hB hOw hZ
    go_wp2_with fail
    refine ⟨by simp, .inl ⟨_, _, rfl, run_takeDeferred hK, ?_⟩⟩
    refine ⟨.tuple #[.slice (some ⟨S, 0, none⟩) (4 * M) Z, .int .i64 0], by simp [results, Try.results16, go_sem], ?_⟩
    refine ⟨⟨_, ⟨Z, rfl⟩, HR2.out⟩, ?_⟩
    · exact HB.out.trans (belowK_b (w := w) (by omega) W D _ _ (by omega) hK rfl rfl)
  case stop =>
    rintro D cc pre W hD hpre hF hK
    exact hF.elim
end Go.Proofs.Ytdcpbbfaakddaaa
