/-
  A row of blocks mended: the program's walk.
-/
import Derived.Test.YtdcpbbfaakddaaaEccAllQ
import Derived.Deep.RegionHeld3
namespace Go.Proofs.Ytdcpbbfaakddaaa
open Go.RowKit Go.Shelf Crcm Tagm Eccm Go.ChangeShapes

attribute [local go_sem] Oper.semAt_some

set_option maxRecDepth 100000 in
set_option maxHeartbeats 1000000 in
theorem mall_yes (a d : Option Addr) (L c s n M : Nat) (l z : List Int) (w : World) (hr : Rw w a l) (hl : l.length = L) (hz : Rw w d z) (hzl : z.length = 4 * M) (hM : nbk L n = M) (hL : L ≤ 900) (h1 : 1 ≤ n) (h2 : n ≤ 4096) (hs : 4 * M ≤ s) (hs63 : s ≤ 9223372036854775807)
    (HCl : Hid (∀ w, Rw w a l → Calls Try.prog 28 #[.slice a L c] w fun e w' => (∃ A cc, e = .returned (.slice A L cc) ∧ L ≤ cc ∧ (L = 0 ∨ ∃ g, A = some ⟨g, 0, none⟩ ∧ w'.ownsRow w.heap.size 5 1 (.slice (some ⟨g, 0, none⟩) L cc) L (l.map (Value.int .u8)))) ∧ Below w.heap.size w w')) :
    Calls Try.prog 18 #[.slice a L c, .int .i64 n, .slice d (4 * M) s] w fun e w' => (∃ A cc, e = .returned (.tuple #[.slice A L cc, .agg #[.int .i64 (cnt (kis z n l M) 0), .int .i64 (cnt (kis z n l M) 1), .int .i64 (cnt (kis z n l M) 2), .int .i64 (cnt (kis z n l M) 3)], .int .i64 0]) ∧ Rw w' A (fs z n l (List.range M)).1) ∧ Below w.heap.size w w' := by
  have HR := Lib.hid fun w => row_yes a L c n w h1 h2 (by omega)
  have HS := Lib.hid fun w => csize_any a L c n w h1 h2 (by omega)
  rw [hM] at HS
  have hMn : nbk L n ≤ L := by
    unfold nbk
    rw [Nat.div_le_iff_le_mul_add_pred (by omega)]
    have : L ≤ n * L := Nat.le_mul_of_pos_left L (by omega)
    omega
  have hM9 : M ≤ 900 := by omega
  obtain ⟨Z, hZ⟩ : ∃ Z, 4 * M = Z := ⟨_, rfl⟩
  rw [hZ] at HS ⊢
  have HRq : ∀ w, Calls Try.prog 32 #[.slice a L c, .int .i64 n] w fun e w' => e = .returned (.bool true) ∧ w' = w := fun w => (HR.out w).mono fun _ _ h => ⟨h.1, h.2.symm⟩
  have HSq : ∀ w, Calls Try.prog 33 #[.slice a L c, .int .i64 n] w fun e w' => e = .returned (.int .i64 Z) ∧ w' = w := fun w => (HS.out w).mono fun _ _ h => ⟨h.1, h.2.symm⟩
  have t : ((Z : Int) != (Z : Int)) = false := by simp
  have hcb := ((Blk.new w 22 #[.slice d Z s]).alloc (.cells #[.int .i64 0, .int .i64 0, .int .i64 0, .int .i64 0] 36)).cell 0
  have HO := Lib.hid fun A cc w => (callsIn_wide (n := 5)).1 (chunkOf_in 5 A L cc n w h1 h2)
  have hb0 : Below w.heap.size w ((w.alloc (.cells #[.slice d Z s] 22)).alloc (.cells #[.int .i64 0, .int .i64 0, .int .i64 0, .int .i64 0] 36)) := ((Below.refl _ _).alloc (Nat.le_refl _) _).alloc (by simp) _
  have hk0 := Blk.new (w.alloc (.cells #[.slice d Z s] 22)) 36 #[.int .i64 0, .int .i64 0, .int .i64 0, .int .i64 0]
  have hk1 := (Blk.new w 22 #[.slice d Z s]).alloc (.cells #[.int .i64 0, .int .i64 0, .int .i64 0, .int .i64 0] 36)
  rw [World.size_alloc] at hk0
  have HB0 := Lib.hid hb0
  have HK0 := Lib.hid hk0
  have HK1 := Lib.hid hk1
  clear hb0 hk0 hk1
  refine (callsIn_wide (n := 5)).1 ?_
  refine callsIn_of_wp_marks Try.func18 rfl trivial ?_ rfl
  simp only [Try.ntmps18, List.size_toArray, List.length_cons, List.length_nil, Nat.reduceAdd, Nat.reduceSub, Array.replicate_succ, Array.replicate_zero, List.push_toArray, List.append_toArray, List.nil_append, List.cons_append]
  refine wpIn_wide.2 ?_
  go_wp2_with fail
  go_quiet (first | exact Calls.quiet_of_same (HRq _) | exact Calls.quiet_of_same (HSq _) | fail)
  have hb1 := below_drewN HB0.out nq
  have hr1 := hr.below hb1
  have HK0' := Lib.hid (blk_drewN HK0.out nq)
  have HK1' := Lib.hid (blk_drewN HK1.out nq)
  generalize hW1 : World.drewN _ nq = W1 at hb1 hr1 HK0' HK1' ⊢
  go_wp2_with fail
  refine (HCl.out W1 hr1).mono ?_
  rintro e w2 ⟨⟨A, cc, rfl, hcc, hRow⟩, hb2⟩
  have HROW := Lib.hid hRow
  have HB2 := Lib.hid hb2
  clear hRow
  go_wp2_with fail
  refine (HO.out A cc _).mono ?_
  rintro e w' ⟨rfl, rfl⟩
  go_wp2_with fail
  obtain ⟨S, hS⟩ : ∃ S, w.heap.size = S := ⟨_, rfl⟩
  obtain ⟨T, hT⟩ : ∃ T, w2.heap.size = T := ⟨_, rfl⟩
  have hz1 : W1.heap.size = S + 2 := by rw [← hW1, ← hS]; show (((w.alloc _).alloc _).heap.size) = _; simp
  obtain ⟨W4, hW4⟩ : ∃ W4, (((w2.alloc (.cells #[.int .i64 0, .int .i64 0, .int .i64 0, .int .i64 0] 68)).alloc (.cells #[.slice A L cc] 22)).alloc (.cells #[.int .i64 n] 3)) = W4 := ⟨_, rfl⟩
  have hbT : T ≥ S + 2 := by have := HB2.out.size; omega
  have hz4 : W4.heap.size = T + 3 := by rw [← hW4]; simp; omega
  have hb24 : Below w2.heap.size w2 W4 := by rw [← hW4]; exact (((Below.refl _ w2).alloc (Nat.le_refl _) _).alloc (by simp) _).alloc (by simp; omega) _
  have hB4 : Below S w W4 := by rw [← hS] at hz1 ⊢; exact hb1.trans ((HB2.out.trans (hb24.mono HB2.out.size)).mono (by omega))
  have bX : Boxed W4 S 22 (.slice d Z s) := by
    have h := HK1'.out
    rw [hS] at h
    exact (hb24.block S (by omega)).trans ((HB2.out.block S (by omega)).trans h)
  have bR : Blk W4 (S + 1) 36 #[.int .i64 0, .int .i64 0, .int .i64 0, .int .i64 0] := by
    have h := HK0'.out
    rw [hS] at h
    exact (hb24.block (S + 1) (by omega)).trans ((HB2.out.block (S + 1) (by omega)).trans h)
  have bT : Blk W4 T 68 #[.int .i64 0, .int .i64 0, .int .i64 0, .int .i64 0] := by
    rw [← hW4, ← hT]; exact ((Blk.new _ _ _).alloc _).alloc _
  have bP : W4.cell? ⟨T + 1, 0, none⟩ = some (.slice A L cc) := by
    have := ((Blk.new (w2.alloc (.cells #[.int .i64 0, .int .i64 0, .int .i64 0, .int .i64 0] 68)) 22 #[.slice A L cc]).alloc (.cells #[.int .i64 n] 3)).cell 0
    rw [World.size_alloc, hT, hW4] at this; exact this
  have bQ : W4.cell? ⟨T + 1 + 1, 0, none⟩ = some (.int .i64 n) := by
    have := (Blk.new ((w2.alloc (.cells #[.int .i64 0, .int .i64 0, .int .i64 0, .int .i64 0] 68)).alloc (.cells #[.slice A L cc] 22)) 3 #[.int .i64 n]).cell 0
    rw [World.size_alloc, World.size_alloc, hT, hW4] at this; exact this
  obtain ⟨g, hg⟩ : ∃ g, L = 0 ∨ (A = some ⟨g, 0, none⟩ ∧ W4.ownsRow (S + 2) 5 1 (.slice (some ⟨g, 0, none⟩) L cc) L (l.map (Value.int .u8)) ∧ S + 2 ≤ g ∧ g < T) := by
    rcases HROW.out with h | ⟨g, rfl, h⟩
    · exact ⟨0, .inl h⟩
    · refine ⟨g, .inr ⟨rfl, ?_, ?_, ?_⟩⟩
      · rw [hz1] at h; exact own_below h hb24
      · have := (h.lt g rfl).1; omega
      · have := (h.lt g rfl).2; omega
  obtain ⟨zb, zo, hzd⟩ : ∃ zb zo, M = 0 ∨ d = some ⟨zb, zo, none⟩ := by
    rcases Nat.eq_zero_or_pos M with h | h
    · exact ⟨0, 0, .inl h⟩
    · obtain ⟨zb, zo, e⟩ := hz.addr (by omega)
      exact ⟨zb, zo, .inr e⟩
  have HZ := Lib.hid fun (W : World) (h : Below S w W) => hz.below (hS ▸ h)
  have hU := hr.1
  rw [hW4, hS, hT]
  have HSeq := Lib.hid (chunk_stops 4 (by omega) (T + 1) (T + 1 + 1) g 0 L cc n A (hg.imp id (·.1)) (by omega) hcc h1 h2 W4 (by omega) (by omega) bP bQ)
  rw [hM] at HSeq
  clear hcb HK0 HK1 HB0 HK0' HK1' HROW hr hr1 hz HRq HSq hb1 hb24 bP bQ
  refine (wpIn_wide (n := 5)).1 ?_
  refine wpIn_rangeFunc_ownF rfl (by omega) (gf := 41) (lb := #[.pointer (some ⟨T + 1, 0, none⟩), .pointer (some ⟨T + 1 + 1, 0, none⟩)]) rfl trivial (enters_of Try.func41 (by kernel_rfl) rfl)
    HSeq.out K2.trans (fun W y o o' hy ho _ _ => ⟨World.putObj_heap_other (by omega), World.putObj_heap_other (by omega)⟩) (Below.refl _ _) (fun _ => rfl)
    (fun pre W => (L = 0 ∨ W.ownsRow (S + 2) 5 1 (.slice (some ⟨g, 0, none⟩) L cc) L ((fs z n l pre).1.map (Value.int .u8))) ∧ (∃ A', Boxed W S 22 (.slice A' (Z - 4 * pre.length) (s - 4 * pre.length)) ∧ (pre.length < M → A' = some ⟨zb, zo + 4 * pre.length, none⟩)) ∧
      Blk W T 68 #[.int .i64 (cnt (fs z n l pre).2 0), .int .i64 (cnt (fs z n l pre).2 1), .int .i64 (cnt (fs z n l pre).2 2), .int .i64 (cnt (fs z n l pre).2 3)] ∧ Blk W (S + 1) 36 #[.int .i64 0, .int .i64 0, .int .i64 0, .int .i64 0] ∧ T + 3 ≤ W.heap.size ∧ Below S w W)
    (fun _ _ _ => False)
    (OwnFrom.and (row_ownS _ _ _ _ (L = 0) _ (fun (pre : List Nat) => (fs z n l pre).1.map (Value.int .u8))) (OwnFrom.and (box_ownS _ _ _ (fun (pre : List Nat) A' => .slice A' (Z - 4 * pre.length) (s - 4 * pre.length)) (fun pre A' => pre.length < M → A' = some ⟨zb, zo + 4 * pre.length, none⟩)) (OwnFrom.and (blk_ownS _ _ _ (fun (pre : List Nat) => #[.int .i64 (cnt (fs z n l pre).2 0), .int .i64 (cnt (fs z n l pre).2 1), .int .i64 (cnt (fs z n l pre).2 2), .int .i64 (cnt (fs z n l pre).2 3)])) (OwnFrom.and (blk_ownS _ _ _ (fun _ => _)) (OwnFrom.and (fun _ _ _ _ hs hg _ => Nat.le_trans hs hg.size) (ownFrom_below (by omega) (by omega)))))))
    (fun _ => ownFrom_pure _ (fun _ => False))
    ⟨hg.imp id (·.2.1), ⟨d, by simpa using bX, fun h => by rcases hzd with e | e; (simp at h; omega); simpa using e⟩, bT, bR, by omega, hB4⟩
    (fun x => { tmps := #[.slice a L c, .int .i64 n, .slice d Z s, undef, undef, .pointer (some ⟨S, 0, none⟩), .slice none 0 0, .pointer (some ⟨S + 1, 0, none⟩), .int .i64 0, .slice A L cc, .pointer (some ⟨T, 0, none⟩), bsl g 0 L n x, undef, undef, undef, undef, .slice a L c, .int .i64 n, .bool true, .bool false, .bool false, .slice d Z s, .int .i64 Z, .slice a L c, .int .i64 n, .int .i64 Z, .bool false, .bool false, undef, .slice a L c, .slice A L cc, .slice A L cc, .int .i64 n, .func (.func 41) #[] #[.pointer (some ⟨T + 1, 0, none⟩), .pointer (some ⟨T + 1 + 1, 0, none⟩)], bsl g 0 L n x, undef, undef, undef, undef, undef, undef, undef, undef, undef, undef, undef, undef, undef, undef, undef, undef, undef, undef, undef, undef, undef, undef, undef, undef, undef, undef, undef, undef, undef, undef, undef, undef, undef, undef, undef, undef, undef, undef, undef, undef, undef, undef], defers := [] })
    ?assign ?body ?done ?stop
  case assign =>
    rintro y x W K hK
    gi_wp2
    exact hK
  case body =>
    rintro y pre x W ⟨hR0, ⟨A', hBx, hA'⟩, hCn, hRs, hSz, hB⟩ hlt
    have hL0 : ¬ L = 0 := by omega
    obtain rfl := hA' hlt
    have row := hR0.resolve_left hL0
    obtain ⟨rfl, -, hg1, hg2⟩ := hg.resolve_left hL0
    have al : Al w S T g L cc (fs z n l pre).1 (some ⟨zb, zo + 4 * pre.length, none⟩) (Z - 4 * pre.length) (s - 4 * pre.length) _ _ _ _ W := ⟨row, hBx, hCn, hRs, hSz, hB, hg1, hg2⟩
    have hdz := hzd.resolve_left (by omega)
    have hfs := fs_len z n l pre hU
    have hst := Lib.hid (fs_snoc z n l pre x)
    have hzrw := HZ.out W hB
    rw [hdz] at hzrw
    have hlen : Hid ((pre ++ [x]).length = pre.length + 1) := Lib.hid (by simp)
    clear hR0 hBx hCn hRs hSz hB hg row hA'
    generalize fs z n l pre = F at al hfs hst
    obtain ⟨X, ks⟩ := F
    obtain ⟨hX1, hX2, hXU⟩ := hfs
    simp only at al hX1 hX2 hXU
    obtain ⟨J, hJ⟩ : ∃ J, pre.length = J := ⟨_, rfl⟩
    rw [hJ] at al hX2 hlt hlen
    obtain ⟨zz, hzz⟩ : ∃ zz, (z.drop (4 * J)).take 4 = zz := ⟨_, rfl⟩
    have hz4l : zz.length = 4 := by rw [← hzz, List.length_take, List.length_drop]; omega
    have hcz : ∀ i, i < 4 → W.cell? ⟨zb, zo + 4 * J + i, none⟩ = some (.int .u8 (zz.getD i 0)) := by
      intro i hi
      rcases hzrw.2.2 with h | ⟨b', o', e, h⟩
      · rw [h] at hzl; simp at hzl; omega
      · injection e with e; injection e with e1 e2; subst e1 e2
        rw [Nat.add_assoc, h (4 * J + i) (by omega), ← hzz]
        simp [List.getD_eq_getElem?_getD, hi]
    have hzU : ∀ b ∈ zz, U8 b := fun b hb => by rw [← hzz] at hb; exact hzrw.1 b (List.mem_of_mem_drop (List.mem_of_mem_take hb))
    have HCZ := Lib.hid hcz
    have AL := Lib.hid al
    obtain ⟨lz, hlz⟩ : ∃ q, Z - 4 * J = q := ⟨_, rfl⟩
    obtain ⟨cz, hczz⟩ : ∃ q, s - 4 * J = q := ⟨_, rfl⟩
    obtain ⟨o, ho⟩ : ∃ q, zo + 4 * J = q := ⟨_, rfl⟩
    rw [hlz, hczz, ho] at AL
    rw [ho] at HCZ
    have hlz4 : 4 ≤ lz := by omega
    have hlc : lz ≤ cz := by omega
    have hczb : (cz : Int) ≤ 9223372036854775807 := by omega
    have hnx : Hid (lz - 4 = Z - 4 * (J + 1) ∧ cz - 4 = s - 4 * (J + 1) ∧ (J + 1 < M → 4 < cz)) := Lib.hid ⟨by omega, by omega, fun h => by omega⟩
    clear hcz al hzrw
    have cb1 := AL.out.box.cell
    have hlz9 : lz ≤ 3600 := by omega
    gi_wp2_with fail
    gi_loopw [12, 35] (fun v i wr => ∃ j : Nat, ∃ V : Int, j ≤ 4 ∧ i = .int .i64 j ∧ v = .int .u32 V ∧ 0 ≤ V ∧ V ≤ 4611686018427387903 ∧ Hid (V = nu (zz.take j)) ∧ Hid (W = wr)) (fun _ i _ => 4 - (intOf i).toNat)
    case atStart => exact ⟨0, 0, by omega, rfl, rfl, by decide, by decide, Lib.hid rfl, Lib.hid rfl⟩
    case round =>
      obtain ⟨j, V, hj, rfl, rfl, hV0, hV1, hV, hw⟩ := hrel
      obtain rfl := hw.out
      clear hw
      have hwT : Hid True := Lib.hid trivial
      by_cases hlt4 : j < 4
      · have cj := HCZ.out j hlt4
        have hBU : U8 (zz.getD j 0) := by rw [List.getD_eq_getElem?_getD, List.getElem?_eq_getElem (by omega)]; exact hzU _ (List.getElem_mem (by omega))
        obtain ⟨B, hB⟩ : ∃ B, zz.getD j 0 = B := ⟨_, rfl⟩
        rw [hB] at cj hBU
        obtain ⟨hB0, hB1⟩ := hBU
        have hVb : 0 ≤ V ∧ V < 256 ^ j := by
          rw [hV.out]
          have := nu_bd (zz.take j) (fun b hb => hzU b (List.mem_of_mem_take hb))
          rwa [List.length_take, Nat.min_eq_left (by omega)] at this
        have HOR := Lib.hid (or_low32 V B j hVb ⟨hB0, hB1⟩ hlt4)
        have HVn : Hid (V + 256 ^ j * B = nu (zz.take (j + 1))) := Lib.hid (by
          rw [List.take_succ_eq_append_getElem (by omega), nu_snoc, List.length_take, Nat.min_eq_left (by omega), ← hV.out, ← hB]
          simp [List.getD_eq_getElem?_getD, show j < zz.length by omega])
        have HVb : Hid (0 ≤ V + 256 ^ j * B ∧ V + 256 ^ j * B ≤ 4611686018427387903) := Lib.hid (by
          rw [HVn.out]
          have h := nu_bd (zz.take (j + 1)) (fun b hb => hzU b (List.mem_of_mem_take hb))
          have hp : (256 : Int) ^ (zz.take (j + 1)).length ≤ 4294967296 := by
            rw [List.length_take, Nat.min_eq_left (by omega)]
            rcases (by omega : j = 0 ∨ j = 1 ∨ j = 2 ∨ j = 3) with rfl | rfl | rfl | rfl <;> decide
          omega)
        clear hVb hB
        gi_wp2
        rw [HOR.out]
        go_roundw
        case rel => exact ⟨j + 1, _, by omega, by go_num, rfl, HVb.out.1, HVb.out.2, HVn, hwT⟩
        case measure => simp [intOf]; omega
      · have hj4 : j = 4 := by omega
        subst hj4
        have hVz : V = nu zz := by rw [hV.out, List.take_of_length_le (by omega)]
        have hVb : 0 ≤ V ∧ V < 4294967296 := by
          rw [hVz]
          have h := nu_bd zz hzU
          rw [hz4l] at h
          exact ⟨h.1, Int.lt_of_lt_of_le h.2 (by decide)⟩
        obtain ⟨C, hC⟩ : ∃ C : Nat, C = cnum z J := ⟨_, rfl⟩
        have hVC : V = (C : Int) := by rw [hC]; unfold cnum; rw [hzz, ← hVz]; omega
        have hC32 : C < 4294967296 := by omega
        have HST : Hid (fs z n l (pre ++ [x]) = (nb X (x * n) (rr (ck X n x) C), ks ++ [jK (rr (ck X n x) C)])) := Lib.hid (by rw [hst.out, hC]; unfold stp; simp only [hX2])
        rw [hVC] at *
        have hck : (ck X n x).length = bln L n x := ck_length (by rw [hX1]; exact hl)
        have hb4096 : bln L n x ≤ 4096 := by unfold bln; split <;> omega
        have fb1 := AL.out.box.frozen
        have HJ1 := Lib.hid fun (W1 : World) (A2 : Option Addr) (q1 q2 k0 k1 k2 k3 : Nat) (h : Al w S T g L cc X A2 q1 q2 k0 k1 k2 k3 W1) (hc : C < 131072) => judge_any g (0 + x * n) (bln L n x) (bln L n x) C (ck X n x) W1 (by
          obtain ⟨A5, c5, he, hR5, -, -⟩ := Rw.of_own h.row hXU
          injection he with e1 e2 e3
          subst e1
          exact ck_rw hR5 (.inr rfl)) hck hb4096 hc
        have HJ2 := Lib.hid fun (W1 : World) (hc : 131072 ≤ C) => judge_above (some ⟨g, 0 + x * n, none⟩) (bln L n x) (bln L n x) (C : Int) W1 ⟨by omega, by omega⟩
        have HTU := Lib.hid fun (W1 : World) (A2 : Option Addr) (q1 q2 k0 k1 k2 k3 : Nat) (h : Al w S T g L cc X A2 q1 q2 k0 k1 k2 k3 W1) (k : Nat) (hk : k < 8 * bln L n x) => turn_at g (0 + x * n) L cc (bln L n x) (bln L n x) k X W1 (S + 2) h.row hXU hk (by
          have hx : x * n < L := by
            rcases Nat.lt_or_ge (x * n) L with h1 | h1
            · exact h1
            · have : bln L n x = 0 := by unfold bln; rw [if_pos (by omega)]; omega
              omega
          have := bln_pos h1 hx
          omega) hb4096
        have hCz : (C : Int) ≤ 4611686018427387903 := by omega
        have hkb : bln L n x ≤ 900 ∨ True := .inr trivial
        clear hVC hVb hVz hV hV0 hV1 hC32 hkb hC
        rcases (by omega : cz = 4 ∨ 4 < cz) with hc4 | hc4
        · obtain ⟨rfl, rfl⟩ : lz = 4 ∧ cz = 4 := ⟨by omega, hc4⟩
          have al1 : Al w S T g L cc X (some ⟨zb, o, none⟩) (0) (0) _ _ _ _ (W.setCell ⟨S, 0, none⟩ (.slice (some ⟨zb, o, none⟩) (0) (0))) := AL.out.codes _ _ _
          have mv1 : Mvd T W (W.setCell ⟨S, 0, none⟩ (.slice (some ⟨zb, o, none⟩) (0) (0))) := (Mvd.refl T W).set (p := ⟨S, 0, none⟩) (by show T + 1 ≠ S; omega) (by show T + 2 ≠ S; omega) _
          have HA2 : Hid (J + 1 < M → (some ⟨zb, o, none⟩ : Option Addr) = some ⟨zb, zo + 4 * (J + 1), none⟩) := Lib.hid (fun h => absurd (hnx.out.2.2 h) (by omega))
          rcases Nat.lt_or_ge C 131072 with hCs | hCs
          · have HJ := Lib.hid (HJ1.out _ _ _ _ _ _ _ _ al1 hCs)
            have hrr : rr (ck X n x) C = mb (ck X n x) C := by unfold rr; rw [if_pos hCs]
            rw [hrr] at HST
            have HAL1 := Lib.hid al1
            have HMV1 := Lib.hid mv1
            clear al1 mv1 hCs hrr
            rcases mb_cases (ck X n x) C with hm | hm | hm | ⟨k, hk, hm⟩
            · rw [hm] at HJ HST
              have ek : jK (none) = 3 := by decide
              have eb : jB (none) = 0 := by decide
              have en : nb X (x * n) (none) = X := rfl
              rw [ek, eb] at HJ
              rw [ek, en] at HST
              clear ek eb en
              clear hm
              gi_wp2_with fail
              refine ⟨trivial, ?_⟩
              refine (CallsIn.inRound y (callsIn_wide.2 HJ.out)).mono ?_
              rintro e wj ⟨rfl, hbj⟩
              have HAL2 := Lib.hid (HAL1.out.below hbj)
              have HMV2 := Lib.hid (HMV1.out.below HAL1.out.siz hbj)
              clear hbj
              have HAL3 := HAL2
              have HMV3 := HMV2
              have ctn := HAL3.out.cnt.cell 3
              have cfn := HAL3.out.cnt.frozen 3
              have hkle : cnt ks 3 ≤ 900 := by have := cnt_le ks 3; omega
              simp at ctn
              gi_wp2
              have al4 := HAL3.out.more 3 (j0 := cnt (ks ++ [3]) 0) (j1 := cnt (ks ++ [3]) 1) (j2 := cnt (ks ++ [3]) 2) (j3 := cnt (ks ++ [3]) 3) ((cnt ks 3 : Int) + 1) (by simp [cnt_snoc])
              have mv4 := HMV3.out.set (p := ⟨T, 3, none⟩) (by show T + 1 ≠ T; omega) (by show T + 2 ≠ T; omega) (.int .i64 ((cnt ks 3 : Int) + 1))
              have hb1 : 0 = Z - 4 * (J + 1) := by have := hnx.out; omega
              have hb2 : 0 = s - 4 * (J + 1) := by have := hnx.out; omega
              exact ⟨mv4.oth, mv4.two, .inr (by rw [HST.out]; exact al4.row), ⟨_, by rw [hlen.out, ← hb1, ← hb2]; exact al4.box, by rw [hlen.out]; exact HA2.out⟩, by rw [HST.out]; exact al4.cnt, al4.res, al4.siz, al4.bel⟩
            · rw [hm] at HJ HST
              have ek : jK (some (-1)) = 0 := by decide
              have eb : jB (some (-1)) = 0 := by decide
              have en : nb X (x * n) (some (-1)) = X := rfl
              rw [ek, eb] at HJ
              rw [ek, en] at HST
              clear ek eb en
              clear hm
              gi_wp2_with fail
              refine ⟨trivial, ?_⟩
              refine (CallsIn.inRound y (callsIn_wide.2 HJ.out)).mono ?_
              rintro e wj ⟨rfl, hbj⟩
              have HAL2 := Lib.hid (HAL1.out.below hbj)
              have HMV2 := Lib.hid (HMV1.out.below HAL1.out.siz hbj)
              clear hbj
              have HAL3 := HAL2
              have HMV3 := HMV2
              have ctn := HAL3.out.cnt.cell 0
              have cfn := HAL3.out.cnt.frozen 0
              have hkle : cnt ks 0 ≤ 900 := by have := cnt_le ks 0; omega
              simp at ctn
              gi_wp2
              have al4 := HAL3.out.more 0 (j0 := cnt (ks ++ [0]) 0) (j1 := cnt (ks ++ [0]) 1) (j2 := cnt (ks ++ [0]) 2) (j3 := cnt (ks ++ [0]) 3) ((cnt ks 0 : Int) + 1) (by simp [cnt_snoc])
              have mv4 := HMV3.out.set (p := ⟨T, 0, none⟩) (by show T + 1 ≠ T; omega) (by show T + 2 ≠ T; omega) (.int .i64 ((cnt ks 0 : Int) + 1))
              have hb1 : 0 = Z - 4 * (J + 1) := by have := hnx.out; omega
              have hb2 : 0 = s - 4 * (J + 1) := by have := hnx.out; omega
              exact ⟨mv4.oth, mv4.two, .inr (by rw [HST.out]; exact al4.row), ⟨_, by rw [hlen.out, ← hb1, ← hb2]; exact al4.box, by rw [hlen.out]; exact HA2.out⟩, by rw [HST.out]; exact al4.cnt, al4.res, al4.siz, al4.bel⟩
            · rw [hm] at HJ HST
              have ek : jK (some (-2)) = 2 := by decide
              have eb : jB (some (-2)) = 0 := by decide
              have en : nb X (x * n) (some (-2)) = X := rfl
              rw [ek, eb] at HJ
              rw [ek, en] at HST
              clear ek eb en
              clear hm
              gi_wp2_with fail
              refine ⟨trivial, ?_⟩
              refine (CallsIn.inRound y (callsIn_wide.2 HJ.out)).mono ?_
              rintro e wj ⟨rfl, hbj⟩
              have HAL2 := Lib.hid (HAL1.out.below hbj)
              have HMV2 := Lib.hid (HMV1.out.below HAL1.out.siz hbj)
              clear hbj
              have HAL3 := HAL2
              have HMV3 := HMV2
              have ctn := HAL3.out.cnt.cell 2
              have cfn := HAL3.out.cnt.frozen 2
              have hkle : cnt ks 2 ≤ 900 := by have := cnt_le ks 2; omega
              simp at ctn
              gi_wp2
              have al4 := HAL3.out.more 2 (j0 := cnt (ks ++ [2]) 0) (j1 := cnt (ks ++ [2]) 1) (j2 := cnt (ks ++ [2]) 2) (j3 := cnt (ks ++ [2]) 3) ((cnt ks 2 : Int) + 1) (by simp [cnt_snoc])
              have mv4 := HMV3.out.set (p := ⟨T, 2, none⟩) (by show T + 1 ≠ T; omega) (by show T + 2 ≠ T; omega) (.int .i64 ((cnt ks 2 : Int) + 1))
              have hb1 : 0 = Z - 4 * (J + 1) := by have := hnx.out; omega
              have hb2 : 0 = s - 4 * (J + 1) := by have := hnx.out; omega
              exact ⟨mv4.oth, mv4.two, .inr (by rw [HST.out]; exact al4.row), ⟨_, by rw [hlen.out, ← hb1, ← hb2]; exact al4.box, by rw [hlen.out]; exact HA2.out⟩, by rw [HST.out]; exact al4.cnt, al4.res, al4.siz, al4.bel⟩
            · rw [hm] at HJ HST
              rw [jK_bit, jB_bit] at HJ
              rw [jK_bit] at HST
              rw [hck] at hk
              have hk9 : (k : Int) ≤ 32768 := by omega
              have hnb : nb X (x * n) (some (k : Int)) = tn X (8 * (0 + x * n) + k) := by unfold nb; simp only; rw [if_pos (by omega), Nat.zero_add]; rfl
              rw [hnb] at HST
              clear hnb
              clear hm
              gi_wp2_with fail
              refine ⟨trivial, ?_⟩
              refine (CallsIn.inRound y (callsIn_wide.2 HJ.out)).mono ?_
              rintro e wj ⟨rfl, hbj⟩
              have HAL2 := Lib.hid (HAL1.out.below hbj)
              have HMV2 := Lib.hid (HMV1.out.below HAL1.out.siz hbj)
              clear hbj
              have HT := Lib.hid (HTU.out _ _ _ _ _ _ _ _ HAL2.out k hk)
              gi_wp2_with fail
              refine ⟨trivial, ?_⟩
              refine (CallsIn.inRound y (callsIn_wide.2 HT.out)).mono ?_
              rintro e w3 ⟨rfl, u, rfl, hrow3⟩
              have HAL3 := Lib.hid (HAL2.out.turned hrow3)
              have HMV3 := Lib.hid ((HMV2.out.set (p := ⟨g, 0 + x * n + k / 8, none⟩) (by show T + 1 ≠ g; omega) (by show T + 2 ≠ g; omega) u).drew)
              clear hrow3
              generalize (wj.setCell ⟨g, 0 + x * n + k / 8, none⟩ u).drew = w4 at HAL3 HMV3 ⊢
              have ctn := HAL3.out.cnt.cell 1
              have cfn := HAL3.out.cnt.frozen 1
              have hkle : cnt ks 1 ≤ 900 := by have := cnt_le ks 1; omega
              simp at ctn
              gi_wp2
              have al4 := HAL3.out.more 1 (j0 := cnt (ks ++ [1]) 0) (j1 := cnt (ks ++ [1]) 1) (j2 := cnt (ks ++ [1]) 2) (j3 := cnt (ks ++ [1]) 3) ((cnt ks 1 : Int) + 1) (by simp [cnt_snoc])
              have mv4 := HMV3.out.set (p := ⟨T, 1, none⟩) (by show T + 1 ≠ T; omega) (by show T + 2 ≠ T; omega) (.int .i64 ((cnt ks 1 : Int) + 1))
              have hb1 : 0 = Z - 4 * (J + 1) := by have := hnx.out; omega
              have hb2 : 0 = s - 4 * (J + 1) := by have := hnx.out; omega
              exact ⟨mv4.oth, mv4.two, .inr (by rw [HST.out]; exact al4.row), ⟨_, by rw [hlen.out, ← hb1, ← hb2]; exact al4.box, by rw [hlen.out]; exact HA2.out⟩, by rw [HST.out]; exact al4.cnt, al4.res, al4.siz, al4.bel⟩
          · have HJ := Lib.hid (HJ2.out (W.setCell ⟨S, 0, none⟩ (.slice (some ⟨zb, o, none⟩) (0) (0))) hCs)
            have hrr : rr (ck X n x) C = none := by unfold rr; rw [if_neg (by omega)]
            rw [hrr] at HST
            have ek : jK none = 3 := by decide
            have en : nb X (x * n) none = X := rfl
            rw [ek, en] at HST
            clear ek en hrr hCs
            have HAL3 := Lib.hid al1
            have HMV3 := Lib.hid mv1
            clear al1 mv1
            gi_wp2_with fail
            refine ⟨trivial, ?_⟩
            refine (CallsIn.inRound y (callsIn_wide.2 HJ.out)).mono ?_
            rintro e wj ⟨rfl, rfl⟩
            generalize (W.setCell ⟨S, 0, none⟩ (.slice (some ⟨zb, o, none⟩) (0) (0))) = w4 at HAL3 HMV3 ⊢
            have ctn := HAL3.out.cnt.cell 3
            have cfn := HAL3.out.cnt.frozen 3
            have hkle : cnt ks 3 ≤ 900 := by have := cnt_le ks 3; omega
            simp at ctn
            gi_wp2
            have al4 := HAL3.out.more 3 (j0 := cnt (ks ++ [3]) 0) (j1 := cnt (ks ++ [3]) 1) (j2 := cnt (ks ++ [3]) 2) (j3 := cnt (ks ++ [3]) 3) ((cnt ks 3 : Int) + 1) (by simp [cnt_snoc])
            have mv4 := HMV3.out.set (p := ⟨T, 3, none⟩) (by show T + 1 ≠ T; omega) (by show T + 2 ≠ T; omega) (.int .i64 ((cnt ks 3 : Int) + 1))
            have hb1 : 0 = Z - 4 * (J + 1) := by have := hnx.out; omega
            have hb2 : 0 = s - 4 * (J + 1) := by have := hnx.out; omega
            exact ⟨mv4.oth, mv4.two, .inr (by rw [HST.out]; exact al4.row), ⟨_, by rw [hlen.out, ← hb1, ← hb2]; exact al4.box, by rw [hlen.out]; exact HA2.out⟩, by rw [HST.out]; exact al4.cnt, al4.res, al4.siz, al4.bel⟩
        · have hcc4 : (4 : Int) < (cz : Int) := by omega
          have al1 : Al w S T g L cc X (some ⟨zb, o + 4, none⟩) (lz - 4) (cz - 4) _ _ _ _ (W.setCell ⟨S, 0, none⟩ (.slice (some ⟨zb, o + 4, none⟩) (lz - 4) (cz - 4))) := AL.out.codes _ _ _
          have mv1 : Mvd T W (W.setCell ⟨S, 0, none⟩ (.slice (some ⟨zb, o + 4, none⟩) (lz - 4) (cz - 4))) := (Mvd.refl T W).set (p := ⟨S, 0, none⟩) (by show T + 1 ≠ S; omega) (by show T + 2 ≠ S; omega) _
          have HA2 : Hid (J + 1 < M → (some ⟨zb, o + 4, none⟩ : Option Addr) = some ⟨zb, zo + 4 * (J + 1), none⟩) := Lib.hid (fun _ => by rw [← ho]; congr 2)
          rcases Nat.lt_or_ge C 131072 with hCs | hCs
          · have HJ := Lib.hid (HJ1.out _ _ _ _ _ _ _ _ al1 hCs)
            have hrr : rr (ck X n x) C = mb (ck X n x) C := by unfold rr; rw [if_pos hCs]
            rw [hrr] at HST
            have HAL1 := Lib.hid al1
            have HMV1 := Lib.hid mv1
            clear al1 mv1 hCs hrr
            rcases mb_cases (ck X n x) C with hm | hm | hm | ⟨k, hk, hm⟩
            · rw [hm] at HJ HST
              have ek : jK (none) = 3 := by decide
              have eb : jB (none) = 0 := by decide
              have en : nb X (x * n) (none) = X := rfl
              rw [ek, eb] at HJ
              rw [ek, en] at HST
              clear ek eb en
              clear hm
              gi_wp2_with fail
              refine ⟨trivial, ?_⟩
              refine (CallsIn.inRound y (callsIn_wide.2 HJ.out)).mono ?_
              rintro e wj ⟨rfl, hbj⟩
              have HAL2 := Lib.hid (HAL1.out.below hbj)
              have HMV2 := Lib.hid (HMV1.out.below HAL1.out.siz hbj)
              clear hbj
              have HAL3 := HAL2
              have HMV3 := HMV2
              have ctn := HAL3.out.cnt.cell 3
              have cfn := HAL3.out.cnt.frozen 3
              have hkle : cnt ks 3 ≤ 900 := by have := cnt_le ks 3; omega
              simp at ctn
              gi_wp2
              have al4 := HAL3.out.more 3 (j0 := cnt (ks ++ [3]) 0) (j1 := cnt (ks ++ [3]) 1) (j2 := cnt (ks ++ [3]) 2) (j3 := cnt (ks ++ [3]) 3) ((cnt ks 3 : Int) + 1) (by simp [cnt_snoc])
              have mv4 := HMV3.out.set (p := ⟨T, 3, none⟩) (by show T + 1 ≠ T; omega) (by show T + 2 ≠ T; omega) (.int .i64 ((cnt ks 3 : Int) + 1))
              have hb1 : lz - 4 = Z - 4 * (J + 1) := by have := hnx.out; omega
              have hb2 : cz - 4 = s - 4 * (J + 1) := by have := hnx.out; omega
              exact ⟨mv4.oth, mv4.two, .inr (by rw [HST.out]; exact al4.row), ⟨_, by rw [hlen.out, ← hb1, ← hb2]; exact al4.box, by rw [hlen.out]; exact HA2.out⟩, by rw [HST.out]; exact al4.cnt, al4.res, al4.siz, al4.bel⟩
            · rw [hm] at HJ HST
              have ek : jK (some (-1)) = 0 := by decide
              have eb : jB (some (-1)) = 0 := by decide
              have en : nb X (x * n) (some (-1)) = X := rfl
              rw [ek, eb] at HJ
              rw [ek, en] at HST
              clear ek eb en
              clear hm
              gi_wp2_with fail
              refine ⟨trivial, ?_⟩
              refine (CallsIn.inRound y (callsIn_wide.2 HJ.out)).mono ?_
              rintro e wj ⟨rfl, hbj⟩
              have HAL2 := Lib.hid (HAL1.out.below hbj)
              have HMV2 := Lib.hid (HMV1.out.below HAL1.out.siz hbj)
              clear hbj
              have HAL3 := HAL2
              have HMV3 := HMV2
              have ctn := HAL3.out.cnt.cell 0
              have cfn := HAL3.out.cnt.frozen 0
              have hkle : cnt ks 0 ≤ 900 := by have := cnt_le ks 0; omega
              simp at ctn
              gi_wp2
              have al4 := HAL3.out.more 0 (j0 := cnt (ks ++ [0]) 0) (j1 := cnt (ks ++ [0]) 1) (j2 := cnt (ks ++ [0]) 2) (j3 := cnt (ks ++ [0]) 3) ((cnt ks 0 : Int) + 1) (by simp [cnt_snoc])
              have mv4 := HMV3.out.set (p := ⟨T, 0, none⟩) (by show T + 1 ≠ T; omega) (by show T + 2 ≠ T; omega) (.int .i64 ((cnt ks 0 : Int) + 1))
              have hb1 : lz - 4 = Z - 4 * (J + 1) := by have := hnx.out; omega
              have hb2 : cz - 4 = s - 4 * (J + 1) := by have := hnx.out; omega
              exact ⟨mv4.oth, mv4.two, .inr (by rw [HST.out]; exact al4.row), ⟨_, by rw [hlen.out, ← hb1, ← hb2]; exact al4.box, by rw [hlen.out]; exact HA2.out⟩, by rw [HST.out]; exact al4.cnt, al4.res, al4.siz, al4.bel⟩
            · rw [hm] at HJ HST
              have ek : jK (some (-2)) = 2 := by decide
              have eb : jB (some (-2)) = 0 := by decide
              have en : nb X (x * n) (some (-2)) = X := rfl
              rw [ek, eb] at HJ
              rw [ek, en] at HST
              clear ek eb en
              clear hm
              gi_wp2_with fail
              refine ⟨trivial, ?_⟩
              refine (CallsIn.inRound y (callsIn_wide.2 HJ.out)).mono ?_
              rintro e wj ⟨rfl, hbj⟩
              have HAL2 := Lib.hid (HAL1.out.below hbj)
              have HMV2 := Lib.hid (HMV1.out.below HAL1.out.siz hbj)
              clear hbj
              have HAL3 := HAL2
              have HMV3 := HMV2
              have ctn := HAL3.out.cnt.cell 2
              have cfn := HAL3.out.cnt.frozen 2
              have hkle : cnt ks 2 ≤ 900 := by have := cnt_le ks 2; omega
              simp at ctn
              gi_wp2
              have al4 := HAL3.out.more 2 (j0 := cnt (ks ++ [2]) 0) (j1 := cnt (ks ++ [2]) 1) (j2 := cnt (ks ++ [2]) 2) (j3 := cnt (ks ++ [2]) 3) ((cnt ks 2 : Int) + 1) (by simp [cnt_snoc])
              have mv4 := HMV3.out.set (p := ⟨T, 2, none⟩) (by show T + 1 ≠ T; omega) (by show T + 2 ≠ T; omega) (.int .i64 ((cnt ks 2 : Int) + 1))
              have hb1 : lz - 4 = Z - 4 * (J + 1) := by have := hnx.out; omega
              have hb2 : cz - 4 = s - 4 * (J + 1) := by have := hnx.out; omega
              exact ⟨mv4.oth, mv4.two, .inr (by rw [HST.out]; exact al4.row), ⟨_, by rw [hlen.out, ← hb1, ← hb2]; exact al4.box, by rw [hlen.out]; exact HA2.out⟩, by rw [HST.out]; exact al4.cnt, al4.res, al4.siz, al4.bel⟩
            · rw [hm] at HJ HST
              rw [jK_bit, jB_bit] at HJ
              rw [jK_bit] at HST
              rw [hck] at hk
              have hk9 : (k : Int) ≤ 32768 := by omega
              have hnb : nb X (x * n) (some (k : Int)) = tn X (8 * (0 + x * n) + k) := by unfold nb; simp only; rw [if_pos (by omega), Nat.zero_add]; rfl
              rw [hnb] at HST
              clear hnb
              clear hm
              gi_wp2_with fail
              refine ⟨trivial, ?_⟩
              refine (CallsIn.inRound y (callsIn_wide.2 HJ.out)).mono ?_
              rintro e wj ⟨rfl, hbj⟩
              have HAL2 := Lib.hid (HAL1.out.below hbj)
              have HMV2 := Lib.hid (HMV1.out.below HAL1.out.siz hbj)
              clear hbj
              have HT := Lib.hid (HTU.out _ _ _ _ _ _ _ _ HAL2.out k hk)
              gi_wp2_with fail
              refine ⟨trivial, ?_⟩
              refine (CallsIn.inRound y (callsIn_wide.2 HT.out)).mono ?_
              rintro e w3 ⟨rfl, u, rfl, hrow3⟩
              have HAL3 := Lib.hid (HAL2.out.turned hrow3)
              have HMV3 := Lib.hid ((HMV2.out.set (p := ⟨g, 0 + x * n + k / 8, none⟩) (by show T + 1 ≠ g; omega) (by show T + 2 ≠ g; omega) u).drew)
              clear hrow3
              generalize (wj.setCell ⟨g, 0 + x * n + k / 8, none⟩ u).drew = w4 at HAL3 HMV3 ⊢
              have ctn := HAL3.out.cnt.cell 1
              have cfn := HAL3.out.cnt.frozen 1
              have hkle : cnt ks 1 ≤ 900 := by have := cnt_le ks 1; omega
              simp at ctn
              gi_wp2
              have al4 := HAL3.out.more 1 (j0 := cnt (ks ++ [1]) 0) (j1 := cnt (ks ++ [1]) 1) (j2 := cnt (ks ++ [1]) 2) (j3 := cnt (ks ++ [1]) 3) ((cnt ks 1 : Int) + 1) (by simp [cnt_snoc])
              have mv4 := HMV3.out.set (p := ⟨T, 1, none⟩) (by show T + 1 ≠ T; omega) (by show T + 2 ≠ T; omega) (.int .i64 ((cnt ks 1 : Int) + 1))
              have hb1 : lz - 4 = Z - 4 * (J + 1) := by have := hnx.out; omega
              have hb2 : cz - 4 = s - 4 * (J + 1) := by have := hnx.out; omega
              exact ⟨mv4.oth, mv4.two, .inr (by rw [HST.out]; exact al4.row), ⟨_, by rw [hlen.out, ← hb1, ← hb2]; exact al4.box, by rw [hlen.out]; exact HA2.out⟩, by rw [HST.out]; exact al4.cnt, al4.res, al4.siz, al4.bel⟩
          · have HJ := Lib.hid (HJ2.out (W.setCell ⟨S, 0, none⟩ (.slice (some ⟨zb, o + 4, none⟩) (lz - 4) (cz - 4))) hCs)
            have hrr : rr (ck X n x) C = none := by unfold rr; rw [if_neg (by omega)]
            rw [hrr] at HST
            have ek : jK none = 3 := by decide
            have en : nb X (x * n) none = X := rfl
            rw [ek, en] at HST
            clear ek en hrr hCs
            have HAL3 := Lib.hid al1
            have HMV3 := Lib.hid mv1
            clear al1 mv1
            gi_wp2_with fail
            refine ⟨trivial, ?_⟩
            refine (CallsIn.inRound y (callsIn_wide.2 HJ.out)).mono ?_
            rintro e wj ⟨rfl, rfl⟩
            generalize (W.setCell ⟨S, 0, none⟩ (.slice (some ⟨zb, o + 4, none⟩) (lz - 4) (cz - 4))) = w4 at HAL3 HMV3 ⊢
            have ctn := HAL3.out.cnt.cell 3
            have cfn := HAL3.out.cnt.frozen 3
            have hkle : cnt ks 3 ≤ 900 := by have := cnt_le ks 3; omega
            simp at ctn
            gi_wp2
            have al4 := HAL3.out.more 3 (j0 := cnt (ks ++ [3]) 0) (j1 := cnt (ks ++ [3]) 1) (j2 := cnt (ks ++ [3]) 2) (j3 := cnt (ks ++ [3]) 3) ((cnt ks 3 : Int) + 1) (by simp [cnt_snoc])
            have mv4 := HMV3.out.set (p := ⟨T, 3, none⟩) (by show T + 1 ≠ T; omega) (by show T + 2 ≠ T; omega) (.int .i64 ((cnt ks 3 : Int) + 1))
            have hb1 : lz - 4 = Z - 4 * (J + 1) := by have := hnx.out; omega
            have hb2 : cz - 4 = s - 4 * (J + 1) := by have := hnx.out; omega
            exact ⟨mv4.oth, mv4.two, .inr (by rw [HST.out]; exact al4.row), ⟨_, by rw [hlen.out, ← hb1, ← hb2]; exact al4.box, by rw [hlen.out]; exact HA2.out⟩, by rw [HST.out]; exact al4.cnt, al4.res, al4.siz, al4.bel⟩
  case done =>
    rintro D ys W hD rfl ⟨hR0, ⟨A', hBx, hA'⟩, hCn, hRs, hSz, hB⟩ hK
    have hks : (fs z n l (List.range M)).2 = kis z n l M := by rw [(fs_range z n l h1 M (fun i hi => by rw [hl]; exact (nbk_lt h1).1 (by omega))).1]
    have hfl := fs_len z n l (List.range M) hU
    rw [hks] at hCn
    have hRR : Hid (Rw W A (fs z n l (List.range M)).1 ∧ (L = 0 ∨ ∃ g, A = some ⟨g, 0, none⟩ ∧ S + 2 ≤ g ∧ g < T)) := Lib.hid (by
      rcases hR0 with h0 | h0
      · refine ⟨?_, .inl h0⟩
        have : (fs z n l (List.range M)).1 = [] := List.eq_nil_of_length_eq_zero (by rw [hfl.1]; omega)
        rw [this]; exact Rw.nil
      · rcases hg with h | ⟨rfl, -, h3, h4⟩
        · refine ⟨?_, .inl h⟩
          have : (fs z n l (List.range M)).1 = [] := List.eq_nil_of_length_eq_zero (by rw [hfl.1]; omega)
          rw [this]; exact Rw.nil
        · obtain ⟨A5, c5, he, hR5, -, -⟩ := Rw.of_own h0 hfl.2.2
          injection he with e1 e2 e3
          subst e1
          exact ⟨hR5, .inr ⟨g, rfl, h3, h4⟩⟩)
    clear hR0 hBx hA' hfl hks hg
    have c0 : W.cell? ⟨T, 0, none⟩ = some (.int .i64 (cnt (kis z n l M) 0)) := hCn.cell 0
    have c1 : W.cell? ⟨T, 1, none⟩ = some (.int .i64 (cnt (kis z n l M) 1)) := hCn.cell 1
    have c2 : W.cell? ⟨T, 2, none⟩ = some (.int .i64 (cnt (kis z n l M) 2)) := hCn.cell 2
    have c3 : W.cell? ⟨T, 3, none⟩ = some (.int .i64 (cnt (kis z n l M) 3)) := hCn.cell 3
    have r0 : W.cell? ⟨S + 1, 0, none⟩ = some (.int .i64 0) := hRs.cell 0
    have r1 : W.cell? ⟨S + 1, 1, none⟩ = some (.int .i64 0) := hRs.cell 1
    have r2 : W.cell? ⟨S + 1, 2, none⟩ = some (.int .i64 0) := hRs.cell 2
    have r3 : W.cell? ⟨S + 1, 3, none⟩ = some (.int .i64 0) := hRs.cell 3
    have q0 := hRs.frozen 0
    have q1 := hRs.frozen 1
    have q2 := hRs.frozen 2
    have q3 := hRs.frozen 3
    have HRs := Lib.hid hRs
    have HB := Lib.hid hB
    have hDS : D ≠ S + 1 := by omega
    clear hCn hRs hB hZ
    have n1 : ¬ S + 1 = T := by omega
    have n2 : ¬ T = S + 1 := by omega
    generalize hk0 : cnt (kis z n l M) 0 = k0 at c0 c1 c2 c3 ⊢
    generalize hk1 : cnt (kis z n l M) 1 = k1 at c0 c1 c2 c3 ⊢
    generalize hk2 : cnt (kis z n l M) 2 = k2 at c0 c1 c2 c3 ⊢
    generalize hk3 : cnt (kis z n l M) 3 = k3 at c0 c1 c2 c3 ⊢
    go_wp2_with fail
    go_region_held3 (fun w' => w'.cell? ⟨T, 0, none⟩ = some (.int .i64 k0) ∧ w'.cell? ⟨T, 1, none⟩ = some (.int .i64 k1) ∧ w'.cell? ⟨T, 2, none⟩ = some (.int .i64 k2) ∧ w'.cell? ⟨T, 3, none⟩ = some (.int .i64 k3)) ((go_keep)) ((fail))
    have hk4 := ov4_blk (a := (k0 : Int)) (b := (k1 : Int)) (c := (k2 : Int)) (d := (k3 : Int)) HRs.out
    have hKK : (ov4 W (S + 1) k0 k1 k2 k3).drew.heap[D]? = some (.deferred (some [])) := by
      unfold ov4
      exact (Below.heap_setCell _ _ _ _ (by show D ≠ S + 1; omega)).trans ((Below.heap_setCell _ _ _ _ (by show D ≠ S + 1; omega)).trans ((Below.heap_setCell _ _ _ _ (by show D ≠ S + 1; omega)).trans ((Below.heap_setCell _ _ _ _ (by show D ≠ S + 1; omega)).trans hK)))
    have dd : ∀ i : Nat, ((ov4 W (S + 1) k0 k1 k2 k3).drew.putObj D (.deferred none)).cell? ⟨S + 1, i, none⟩ = (#[Value.int .i64 (k0 : Int), .int .i64 k1, .int .i64 k2, .int .i64 k3] : Array Value)[i]? := fun i => (World.cell?_of_block (a := ⟨S + 1, i, none⟩) (World.putObj_heap_other (by show S + 1 ≠ D; omega))).trans (hk4.cell i)
    have d0 := dd 0
    have d1 := dd 1
    have d2 := dd 2
    have d3 := dd 3
    have hbf : Below S w ((ov4 W (S + 1) k0 k1 k2 k3).drew.putObj D (.deferred none)) := (ov4_below HB.out (show S ≤ S + 1 by omega)).drew.trans (belowK_b (w := w) (by omega) _ D _ _ (by omega) hKK rfl rfl)
    have hRf : Rw ((ov4 W (S + 1) k0 k1 k2 k3).drew.putObj D (.deferred none)) A (fs z n l (List.range M)).1 := by
      obtain ⟨hq, h0 | ⟨g, rfl, g1, g2⟩⟩ := hRR.out
      · have : (fs z n l (List.range M)).1 = [] := List.eq_nil_of_length_eq_zero (by rw [(fs_len z n l (List.range M) hU).1]; omega)
        rw [this]; exact Rw.nil
      · have hh : ((ov4 W (S + 1) k0 k1 k2 k3).drew.putObj D (.deferred none)).heap[g]? = W.heap[g]? := by
          refine (World.putObj_heap_other (by omega)).trans ?_
          unfold ov4
          exact (Below.heap_setCell _ _ _ _ (by show g ≠ S + 1; omega)).trans ((Below.heap_setCell _ _ _ _ (by show g ≠ S + 1; omega)).trans ((Below.heap_setCell _ _ _ _ (by show g ≠ S + 1; omega)).trans (Below.heap_setCell _ _ _ _ (by show g ≠ S + 1; omega))))
        obtain ⟨h1', h2', h3'⟩ := hq
        refine ⟨h1', h2', ?_⟩
        rcases h3' with h | ⟨b', o', e, h⟩
        · exact .inl h
        · injection e with e; injection e with e1 e2; subst e1 e2
          exact .inr ⟨g, 0, rfl, fun i hi => (World.cell?_of_block (a := ⟨g, 0 + i, none⟩) hh).trans (h i hi)⟩
    have HBf := Lib.hid hbf
    have HRf := Lib.hid hRf
    clear hk4 dd hbf hRf
    simp only [ov4] at d0 d1 d2 d3 hKK
    go_wp2_with fail
    refine ⟨by simp, .inl ⟨_, _, rfl, run_takeDeferred hKK, ?_⟩⟩
    refine ⟨.tuple #[.slice A L cc, .agg #[.int .i64 k0, .int .i64 k1, .int .i64 k2, .int .i64 k3], .int .i64 0], by simp [results, Try.results18, go_sem, d0, d1, d2, d3], ?_⟩
    subst hk0 hk1 hk2 hk3
    exact ⟨⟨A, cc, rfl, HRf.out⟩, by rw [hS]; exact HBf.out⟩
  case stop =>
    rintro D cc pre W hD hpre hF hK
    exact hF.elim
end Go.Proofs.Ytdcpbbfaakddaaa
