/-
  A row of blocks mended: the document's walk.
-/
import Derived.Test.YtdcpbbfaakddaaaEccRefAll
import Derived.Lib.SlBytesRow
import Derived.RegionTactic
import Derived.ChangeAlike
namespace Go.Proofs.Ytdcpbbfaakddaaa
open Go.RowKit Crcm Tagm Eccm Go.ChangeShapes

theorem esize8 (w : World) : (Go.sizeOf 5).run Try.prog w = .ok 1 w := by
  obtain ⟨i0, hi, hz0, hz1, hz2⟩ := info_parts Try.info8
  simp [Go.sizeOf, typeInfo, hi, hz1]
theorem ecut_at (b off n cap x y m : Nat) (X Y : Int) (hx : X = (x : Int)) (hy : Y = (y : Int)) (h1 : x < y) (h2 : y ≤ cap) (hm : y - x = m) (W : World) :
    (Instr.slice 22 (.slice (some ⟨b, off, none⟩) n cap) (some (.int .i64 X)) (some (.int .i64 Y)) none).run Try.prog W = .ok (.slice (some ⟨b, off + x, none⟩) m (cap - x)) W := by
  subst hx
  subst hy
  subst hm
  exact Lib.run_slice_window (P := Try.prog) W 22 5 Try.underlying22 esize8 b off n cap x y h1 h2
/-- what the document's Mend answers of a block, and what is then put -/
theorem rmend_all (b off n c C : Nat) (l : List Int) (hl : l.length = n) (h0 : 1 ≤ n) (hn : n ≤ 4096) (hnc : n ≤ c) (hc : C < 4294967296) :
    ∃ (Y : List Int) (K E : Int), (∀ w, Rw w (some ⟨b, off, none⟩) l → Calls Try.prog 14 #[.slice (some ⟨b, off, none⟩) n c, .int .u32 C] w fun e w' => (∃ A cap, e = .returned (.tuple #[.slice A Y.length cap, .int .i64 K, .int .i64 E]) ∧ Rw w' A Y) ∧ Below w.heap.size w w') ∧
      ((rr l C = none ∧ E ≠ 0) ∨ (rr l C = some (-1) ∧ E = 0 ∧ K = -1 ∧ Y = l) ∨ (rr l C = some (-2) ∧ E = 0 ∧ K = -2 ∧ Y = l) ∨ ∃ j : Nat, rr l C = some (j : Int) ∧ E = 0 ∧ K = j ∧ Y = tn l j ∧ j < 8 * n) := by
  rcases Nat.lt_or_ge C 131072 with h | h
  · refine ⟨mx l C, mk l C, me l C, fun w hr => (rmend_yes b off n c C l w hr hl h0 hn hnc h).mono ?_, ?_⟩
    · rintro e w' ⟨⟨A, m, cap, rfl, rfl, -, hR⟩, hb⟩; exact ⟨⟨A, cap, rfl, hR⟩, hb⟩
    · have e : rr l C = mb l C := by unfold rr; rw [if_pos h]
      rw [e]
      rcases mb_cases l C with h1 | h1 | h1 | ⟨j, hj, h1⟩
      · obtain ⟨a1, a2, a3⟩ := mx_none h1; exact .inl ⟨h1, by rw [a3]; decide⟩
      · obtain ⟨a1, a2, a3⟩ := mx_low h1 (by decide); exact .inr (.inl ⟨h1, a3, a2, a1⟩)
      · obtain ⟨a1, a2, a3⟩ := mx_low h1 (by decide); exact .inr (.inr (.inl ⟨h1, a3, a2, a1⟩))
      · obtain ⟨a1, a2, a3⟩ := mx_bit h1; exact .inr (.inr (.inr ⟨j, h1, a3, a2, a1, by rw [← hl]; exact hj⟩))
  · refine ⟨[], 0, 1, fun w hr => (rmend_no (some ⟨b, off, none⟩) n c C w (by unfold maxLen; omega) (.inr (by omega))).mono ?_, .inl ⟨by unfold rr; rw [if_neg (by omega)], by decide⟩⟩
    rintro e w' ⟨rfl, rfl⟩; exact ⟨⟨none, 0, rfl, Rw.nil⟩, Below.refl _ _⟩

set_option maxRecDepth 100000 in
set_option maxHeartbeats 2000000 in
theorem rmall_yes (b off : Nat) (a d : Option Addr) (L c s n M : Nat) (l z : List Int) (w : World) (hr : Rw w a l) (hl : l.length = L) (hz : Rw w d z) (hzl : z.length = 4 * M) (ha : L = 0 ∨ a = some ⟨b, off, none⟩) (hM : nbk L n = M) (hL : L ≤ 900) (hLc : L ≤ c) (hc : c ≤ 9223372036854775807) (h1 : 1 ≤ n) (h2 : n ≤ 4096) (hs : 4 * M ≤ s) :
    Calls Try.prog 19 #[.slice a L c, .int .i64 n, .slice d (4 * M) s] w fun e w' => (∃ A m cc, e = .returned (.tuple #[.slice A m cc, .agg #[.int .i64 (cnt (kis z n l M) 0), .int .i64 (cnt (kis z n l M) 1), .int .i64 (cnt (kis z n l M) 2), .int .i64 (cnt (kis z n l M) 3)], .int .i64 0]) ∧ (pcs z n l M).length = m ∧ Rw w' A (pcs z n l M)) ∧ Below w.heap.size w w' := by
  have HBL := Lib.hid fun w' => blocks_any b off a L c n w' ha hL hLc hc h1 h2
  rw [hM] at HBL
  have hMn : M ≤ L := by
    rw [← hM]
    unfold nbk
    rw [Nat.div_le_iff_le_mul_add_pred (by omega)]
    have : L ≤ n * L := Nat.le_mul_of_pos_left L (by omega)
    omega
  have h3 : decide ((65536 : Int) < (L : Int)) = false := by simp; omega
  have h4 : decide ((n : Int) < 1) = false := by simp; omega
  have h5 : decide ((4096 : Int) < (n : Int)) = false := by simp; omega
  obtain ⟨Z, hZ⟩ : ∃ Z, 4 * M = Z := ⟨_, rfl⟩
  have t : ((Z : Int) != 4 * (M : Int)) = false := by simp; omega
  have hU := hr.1
  have HZ := Lib.hid fun (W : World) (h : Below w.heap.size w W) => hz.below h
  obtain ⟨zb, zo, hzd⟩ : ∃ zb zo, M = 0 ∨ d = some ⟨zb, zo, none⟩ := by
    rcases Nat.eq_zero_or_pos M with h | h
    · exact ⟨0, 0, .inl h⟩
    · obtain ⟨zb, zo, e⟩ := hz.addr (by omega)
      exact ⟨zb, zo, .inr e⟩
  have HLr := Lib.hid fun (W : World) (h : Below w.heap.size w W) (i : Nat) => ck_rw (W := W) (x := i) (n := n) (b := b) (off := off) (hr.below h) (hl ▸ ha)
  have HPC : Hid (∀ k, k ≤ M → (pcs z n l k).length ≤ 900) := Lib.hid fun k hk => by have := pcs_len z n l h1 hU k (by rw [hl, hM]; exact hk); omega
  have HPU := Lib.hid (pcs_U8 z n l hU)
  rw [hZ]
  have hZs : Z ≤ s := by omega
  go_enter Try.func19, Try.ntmps19
  go_wp2_with fail
  refine (HBL.out _).mono ?_
  rintro e w2 ⟨⟨v, rfl, hO2⟩, hb2⟩
  obtain ⟨A0, c0', rfl⟩ := own_form8 hO2
  have hk2 := (Blk.new w 39 #[.int .i64 0, .int .i64 0, .int .i64 0, .int .i64 0]).below hb2 (by simp)
  have hB2 : Below w.heap.size w w2 := ((Below.refl _ _).alloc (Nat.le_refl _) _).trans (hb2.mono (by simp))
  have hs2 : w.heap.size < w2.heap.size := by have := hb2.size; simp at this; omega
  clear hO2 hb2
  go_wp2_with fail
  obtain ⟨S, hS⟩ : ∃ S, w.heap.size = S := ⟨_, rfl⟩
  obtain ⟨F, hF⟩ : ∃ F, w2.heap.size = F := ⟨_, rfl⟩
  refine (HBL.out _).mono ?_
  rintro e w3 ⟨⟨v, rfl, hO3⟩, hb3⟩
  obtain ⟨A1, c1', rfl⟩ := own_form8 hO3
  have hsz : (w2.alloc (.cells #[.int .i64 0, .int .i64 0, .int .i64 0, .int .i64 0] 39)).heap.size = F + 1 := by rw [World.size_alloc, hF]
  have hk3 : Blk w3 F 39 #[.int .i64 0, .int .i64 0, .int .i64 0, .int .i64 0] := by
    rw [← hF]; exact (Blk.new w2 _ _).below hb3 (by simp)
  have hk3' : Blk w3 S 39 #[.int .i64 0, .int .i64 0, .int .i64 0, .int .i64 0] := by
    rw [← hS]; exact (hk2.alloc _).below hb3 (by simp; omega)
  rw [hsz] at hO3 hb3
  have hB3 : Below S w w3 := by rw [← hS]; exact (hB2.alloc (by omega) _).trans (hb3.mono (by omega))
  have hV3 : F < w3.heap.size := by have := hb3.size; rw [hsz] at this; omega
  obtain ⟨gl, hgl⟩ : ∃ gl, M = 0 ∨ (A1 = some ⟨gl, 0, none⟩ ∧ F < gl ∧ gl < w3.heap.size) := by
    rcases Nat.eq_zero_or_pos M with h | h
    · exact ⟨0, .inl h⟩
    · obtain ⟨g, cg, he, hg1, -⟩ := own_shape hO3 h
      injection he with e1 e2 e3
      subst e1
      exact ⟨g, .inr ⟨rfl, by omega, (hO3.lt g rfl).2⟩⟩
  have hRl0 : Rl w S F w3.heap.size gl c1' M b off L c n [] none 0 0 0 0 0 w3 := ⟨hgl.imp id (fun h => ⟨by rw [← h.1]; exact hO3, h.2⟩), World.ownsRow_nil _ _ _ _, hk3, hk3', hB3, Nat.le_refl _, by omega, hV3⟩
  have HRL0 := Lib.hid hRl0
  have HGL := Lib.hid hgl
  obtain ⟨V, hVv⟩ : ∃ V, w3.heap.size = V := ⟨_, rfl⟩
  rw [hVv] at HRL0 HGL
  clear hRl0 hgl hO3 hk3 hk3' hB3 hk2 hB2 hb3 hV3
  go_wp2_with fail
  go_loopw [9, 12] (fun v i wr => ∃ k : Nat, k ≤ M ∧ i = .int .i64 k ∧ ∃ A cp, v = .slice A (pcs z n l k).length cp ∧ Hid (Rl w S F V gl c1' M b off L c n (pcs z n l k) A cp (cnt (kis z n l k) 0) (cnt (kis z n l k) 1) (cnt (kis z n l k) 2) (cnt (kis z n l k) 3) wr)) (fun _ i _ => M - (intOf i).toNat)
  case atStart => exact ⟨0, by omega, rfl, none, 0, rfl, HRL0⟩
  case round =>
    obtain ⟨k, hk, rfl, A, cp, rfl, hR⟩ := hrel
    by_cases hlt : k < M
    · obtain ⟨rfl, hg1, hg2⟩ := HGL.out.resolve_left (by omega)
      have hdz := hzd.resolve_left (by omega)
      subst hdz
      have hkL : k * n < L := (nbk_lt h1).1 (by omega)
      obtain ⟨B1, B2, B3⟩ := bln_pos h1 hkL
      obtain ⟨C, hC⟩ : ∃ C, cnum z k = C := ⟨_, rfl⟩
      obtain ⟨zz, hzz⟩ : ∃ zz, (z.drop (4 * k)).take 4 = zz := ⟨_, rfl⟩
      have hz4l : zz.length = 4 := by rw [← hzz, List.length_take, List.length_drop]; omega
      have hzU : ∀ b ∈ zz, U8 b := fun b hb => by rw [← hzz] at hb; exact hz.1 b (List.mem_of_mem_drop (List.mem_of_mem_take hb))
      have hnu : nu zz = (C : Int) ∧ C < 4294967296 := by
        have h := nu_bd zz hzU
        rw [hz4l] at h
        have hC2 : C = (nu zz).toNat := by rw [← hC]; unfold cnum; rw [hzz]
        have : (256 : Int) ^ 4 = 4294967296 := by decide
        omega
      obtain ⟨K4, hK4⟩ : ∃ q, 4 * k = q := ⟨_, rfl⟩
      rw [hK4] at hzz
      have e1 : IntKind.i64.wrap (4 * (k : Int)) = (K4 : Int) := by rw [IntKind.wrap_i64]; omega
      obtain ⟨K44, hK44⟩ : ∃ q, K4 + 4 = q := ⟨_, rfl⟩
      have e2 : IntKind.i64.wrap ((K4 : Int) + 4) = (K44 : Int) := by rw [IntKind.wrap_i64]; omega
      have e3 : IntKind.u32.wrap (C : Int) = (C : Int) := by rw [IntKind.wrap_u32']; omega
      have ecut : ∀ W, (Instr.slice 22 (.slice (some ⟨zb, zo, none⟩) Z s) (some (.int .i64 (K4 : Int))) (some (.int .i64 (K44 : Int))) none).run Try.prog W = .ok (.slice (some ⟨zb, zo + K4, none⟩) 4 (s - K4)) W := fun W => ecut_at zb zo Z s K4 K44 4 _ _ rfl rfl (by omega) (by omega) (by omega) W
      have hlenb : (ck l n k).length = bln L n k := ck_length hl
      obtain ⟨Y, KK, EE, hM1, hM2⟩ := rmend_all b (off + k * n) (bln L n k) (c - k * n) C (ck l n k) hlenb B1 (by omega) (by omega) hnu.2
      have HN : Hid (∀ w', (w'.cell? ⟨gl, k, none⟩ = some (.slice (some ⟨b, off + k * n, none⟩) (bln L n k) (c - k * n)) ∧ Rl w S F V gl c1' M b off L c n (pcs z n l k) A cp (cnt (kis z n l k) 0) (cnt (kis z n l k) 1) (cnt (kis z n l k) 2) (cnt (kis z n l k) 3) w') → Calls Try.prog 37 #[.slice (some ⟨zb, zo + K4, none⟩) 4 (s - K4)] w' fun e w'' => e = .returned (.int .u64 (C : Int)) ∧ w' = w'') := Lib.hid fun w' hw => by
        have hq := ((HZ.out w' (by rw [hS]; exact hw.2.bel)).drop K4 (a' := some ⟨zb, zo + K4, none⟩) (fun b' off' e _ => by injection e with e; injection e with e1 e2; subst e1 e2; rfl)).take 4
        rw [hzz] at hq
        have := num_any _ (s - K4) zz w' hq (by omega)
        rwa [hz4l, hnu.1] at this
      have HMd : Hid (∀ w', (w'.cell? ⟨gl, k, none⟩ = some (.slice (some ⟨b, off + k * n, none⟩) (bln L n k) (c - k * n)) ∧ Rl w S F V gl c1' M b off L c n (pcs z n l k) A cp (cnt (kis z n l k) 0) (cnt (kis z n l k) 1) (cnt (kis z n l k) 2) (cnt (kis z n l k) 3) w') → Calls Try.prog 14 #[.slice (some ⟨b, off + k * n, none⟩) (bln L n k) (c - k * n), .int .u32 (C : Int)] w' fun e w'' => (∃ A2 c2, e = .returned (.tuple #[.slice A2 Y.length c2, .int .i64 KK, .int .i64 EE]) ∧ Rw w'' A2 Y) ∧ (w''.cell? ⟨gl, k, none⟩ = some (.slice (some ⟨b, off + k * n, none⟩) (bln L n k) (c - k * n)) ∧ Rl w S F V gl c1' M b off L c n (pcs z n l k) A cp (cnt (kis z n l k) 0) (cnt (kis z n l k) 1) (cnt (kis z n l k) 2) (cnt (kis z n l k) 3) w'')) := Lib.hid fun w' hw => by
        refine (hM1 w' (HLr.out w' (by rw [hS]; exact hw.2.bel) k)).mono ?_
        rintro e w'' ⟨h, hb⟩
        exact ⟨h, (hw.2.below hb).cell hlt, hw.2.below hb⟩
      have hS0 : wr.drew.cell? ⟨gl, k, none⟩ = some (.slice (some ⟨b, off + k * n, none⟩) (bln L n k) (c - k * n)) ∧ Rl w S F V gl c1' M b off L c n (pcs z n l k) A cp (cnt (kis z n l k) 0) (cnt (kis z n l k) 1) (cnt (kis z n l k) 2) (cnt (kis z n l k) 3) wr.drew := ⟨(hR.out.drew).cell hlt, hR.out.drew⟩
      have HPk := HPC.out k (by omega)
      have HPk1 : Hid (pcs z n l (k + 1) = pcs z n l k ++ nb (ck l n k) 0 (rr (ck l n k) C)) := Lib.hid (by rw [← hC]; rfl)
      have HKk1 : Hid (kis z n l (k + 1) = kis z n l k ++ [jK (rr (ck l n k) C)]) := Lib.hid (by rw [← hC]; exact kis_succ z n l k)
      have HLB := Lib.hid fun (W : World) (h : Rl w S F V gl c1' M b off L c n (pcs z n l k) A cp (cnt (kis z n l k) 0) (cnt (kis z n l k) 1) (cnt (kis z n l k) 2) (cnt (kis z n l k) 3) W) => HLr.out W (by rw [hS]; exact h.bel) k
      have HM2 := Lib.hid hM2
      have hYl : Y.length ≤ 4096 ∨ True := .inr trivial
      have hkis : (kis z n l k).length = k := by simp [kis]
      have hcn : ∀ i, cnt (kis z n l k) i ≤ 900 := fun i => by have := cnt_le (kis z n l k) i; omega
      have n0 := hcn 0
      have n1 := hcn 1
      have n2 := hcn 2
      have n3 := hcn 3
      clear hC hzz hK4 hK44 hnu hzU hM1 hM2 hYl hcn hkis
      go_wp2_with fail
      go_region_held3 (fun w' => w'.cell? ⟨gl, k, none⟩ = some (.slice (some ⟨b, off + k * n, none⟩) (bln L n k) (c - k * n)) ∧ Rl w S F V gl c1' M b off L c n (pcs z n l k) A cp (cnt (kis z n l k) 0) (cnt (kis z n l k) 1) (cnt (kis z n l k) 2) (cnt (kis z n l k) 3) w')
        ((first | exact hS0 | (go_split_ands; refine ⟨?_, ?_⟩ <;> assumption)))
        (first
          | (go_at_call 37; refine (HN.out _ ?_).mono ?_; (go_split_ands; refine ⟨?_, ?_⟩ <;> assumption); rintro e w4 ⟨rfl, rfl⟩)
          | (go_at_call 14; refine (HMd.out _ ?_).mono ?_; (go_split_ands; refine ⟨?_, ?_⟩ <;> assumption); rintro e w5 ⟨⟨A2, c2, rfl, hR5⟩, hc5, hRl5⟩))
      have HR5 := Lib.hid hR5
      have HRl5 := Lib.hid hRl5
      clear hS0 hR5 hRl5 HN HMd ecut
      have hs9 := HPk
      rcases HM2.out with ⟨hr, hE⟩ | ⟨hr, rfl, rfl, rfl⟩ | ⟨hr, rfl, rfl, rfl⟩ | ⟨j, hr, rfl, rfl, rfl, hj⟩
      · have ek : jK none = 3 := by decide
        have en : nb (ck l n k) 0 none = ck l n k := rfl
        rw [hr, en] at HPk1
        rw [hr, ek] at HKk1
        have t1 : (EE != 0) = true := bne_iff_ne.2 hE
        clear ek en hr hE HM2
        have cf : w5.cell? ⟨F, 3, none⟩ = some (.int .i64 (cnt (kis z n l k) 3)) := HRl5.out.cnt.cell 3
        have ff := HRl5.out.cnt.frozen 3
        have hRl6 := HRl5.out.more 3 (j0 := cnt (kis z n l k ++ [3]) 0) (j1 := cnt (kis z n l k ++ [3]) 1) (j2 := cnt (kis z n l k ++ [3]) 2) (j3 := cnt (kis z n l k ++ [3]) 3) ((cnt (kis z n l k) 3 : Int) + 1) (by simp [cnt_snoc])
        have hc6 := hRl6.cell hlt
        unfold rsl at hc6
        have HRl6 := Lib.hid hRl6
        have HS6 := Lib.hid ((HLr.out _ (by rw [hS]; exact hRl6.bel) k).src)
        clear hRl6
        go_wp2_with (at_builtin; refine append_bytes rfl _ _ rfl V (.slice A (pcs z n l k).length cp) (pcs z n l k).length (pcs z n l k) rfl HRl6.out.out (some ⟨b, off + k * n, none⟩) (bln L n k) (c - k * n) (ck l n k) rfl hlenb HS6.out (by omega) HRl6.out.siz ?_)
        intro v7 w7 hown7 hb7
        obtain ⟨A7, c7, rfl⟩ := own_form8 hown7
        have hRl7 : Rl w S F V gl c1' M b off L c n (pcs z n l k ++ ck l n k) A7 c7 _ _ _ _ w7 := HRl6.out.grow (by rw [List.length_append, hlenb]; simpa using hown7) hb7
        have HRl7 := Lib.hid hRl7
        clear hRl7 hown7 hb7
        go_wp2
        go_roundw
        case rel => exact ⟨k + 1, by omega, by go_num, A7, c7, by rw [HPk1.out, List.length_append, hlenb], by rw [HPk1.out, HKk1.out]; exact HRl7⟩
        case measure => simp [intOf]; omega
      · have ek : jK (some (-1)) = 0 := by decide
        have en : nb (ck l n k) 0 (some (-1)) = ck l n k := rfl
        rw [hr, en] at HPk1
        rw [hr, ek] at HKk1
        clear ek en hr HM2
        have hYl : (ck l n k).length = bln L n k := hlenb
        have HS6 := Lib.hid HR5.out.src
        have hRl5b := HRl5.out
        rw [hYl]
        go_wp2_with (at_builtin; refine append_bytes rfl _ _ rfl V (.slice A (pcs z n l k).length cp) (pcs z n l k).length (pcs z n l k) rfl hRl5b.out A2 (bln L n k) c2 (ck l n k) rfl hYl HS6.out (by omega) hRl5b.siz ?_)
        intro v7 w7 hown7 hb7
        obtain ⟨A7, c7, rfl⟩ := own_form8 hown7
        have hRl7 : Rl w S F V gl c1' M b off L c n (pcs z n l k ++ ck l n k) A7 c7 _ _ _ _ w7 := HRl5.out.grow (by rw [List.length_append, hYl]; simpa using hown7) hb7
        have HRl7 := Lib.hid hRl7
        clear hRl7 hown7 hb7 hRl5b
        have cf : w7.cell? ⟨F, 0, none⟩ = some (.int .i64 (cnt (kis z n l k) 0)) := HRl7.out.cnt.cell 0
        have ff := HRl7.out.cnt.frozen 0
        have HRl8 := Lib.hid (HRl7.out.more 0 (j0 := cnt (kis z n l k ++ [0]) 0) (j1 := cnt (kis z n l k ++ [0]) 1) (j2 := cnt (kis z n l k ++ [0]) 2) (j3 := cnt (kis z n l k ++ [0]) 3) ((cnt (kis z n l k) 0 : Int) + 1) (by simp [cnt_snoc]))
        go_wp2
        go_roundw
        case rel => exact ⟨k + 1, by omega, by go_num, A7, c7, by rw [HPk1.out, List.length_append, hYl], by rw [HPk1.out, HKk1.out]; exact HRl8⟩
        case measure => simp [intOf]; omega
      · have ek : jK (some (-2)) = 2 := by decide
        have en : nb (ck l n k) 0 (some (-2)) = ck l n k := rfl
        rw [hr, en] at HPk1
        rw [hr, ek] at HKk1
        clear ek en hr HM2
        have hYl : (ck l n k).length = bln L n k := hlenb
        have HS6 := Lib.hid HR5.out.src
        have hRl5b := HRl5.out
        rw [hYl]
        go_wp2_with (at_builtin; refine append_bytes rfl _ _ rfl V (.slice A (pcs z n l k).length cp) (pcs z n l k).length (pcs z n l k) rfl hRl5b.out A2 (bln L n k) c2 (ck l n k) rfl hYl HS6.out (by omega) hRl5b.siz ?_)
        intro v7 w7 hown7 hb7
        obtain ⟨A7, c7, rfl⟩ := own_form8 hown7
        have hRl7 : Rl w S F V gl c1' M b off L c n (pcs z n l k ++ ck l n k) A7 c7 _ _ _ _ w7 := HRl5.out.grow (by rw [List.length_append, hYl]; simpa using hown7) hb7
        have HRl7 := Lib.hid hRl7
        clear hRl7 hown7 hb7 hRl5b
        have cf : w7.cell? ⟨F, 2, none⟩ = some (.int .i64 (cnt (kis z n l k) 2)) := HRl7.out.cnt.cell 2
        have ff := HRl7.out.cnt.frozen 2
        have HRl8 := Lib.hid (HRl7.out.more 2 (j0 := cnt (kis z n l k ++ [2]) 0) (j1 := cnt (kis z n l k ++ [2]) 1) (j2 := cnt (kis z n l k ++ [2]) 2) (j3 := cnt (kis z n l k ++ [2]) 3) ((cnt (kis z n l k) 2 : Int) + 1) (by simp [cnt_snoc]))
        go_wp2
        go_roundw
        case rel => exact ⟨k + 1, by omega, by go_num, A7, c7, by rw [HPk1.out, List.length_append, hYl], by rw [HPk1.out, HKk1.out]; exact HRl8⟩
        case measure => simp [intOf]; omega
      · have en : nb (ck l n k) 0 (some (j : Int)) = tn (ck l n k) j := by unfold nb; simp only; rw [if_pos (by omega), Nat.mul_zero, Nat.zero_add]; rfl
        rw [hr, en] at HPk1
        rw [hr, jK_bit] at HKk1
        clear en hr HM2
        have hYl : (tn (ck l n k) j).length = bln L n k := by rw [tn_length]; exact hlenb
        have t1 : ((j : Int) == -1) = false := by simp
        have t2 : ((j : Int) == -2) = false := by simp
        have HS6 := Lib.hid HR5.out.src
        have hRl5b := HRl5.out
        rw [hYl]
        go_wp2_with (at_builtin; refine append_bytes rfl _ _ rfl V (.slice A (pcs z n l k).length cp) (pcs z n l k).length (pcs z n l k) rfl hRl5b.out A2 (bln L n k) c2 (tn (ck l n k) j) rfl hYl HS6.out (by omega) hRl5b.siz ?_)
        intro v7 w7 hown7 hb7
        obtain ⟨A7, c7, rfl⟩ := own_form8 hown7
        have hRl7 : Rl w S F V gl c1' M b off L c n (pcs z n l k ++ tn (ck l n k) j) A7 c7 _ _ _ _ w7 := HRl5.out.grow (by rw [List.length_append, hYl]; simpa using hown7) hb7
        have HRl7 := Lib.hid hRl7
        clear hRl7 hown7 hb7 hRl5b
        have cf : w7.cell? ⟨F, 1, none⟩ = some (.int .i64 (cnt (kis z n l k) 1)) := HRl7.out.cnt.cell 1
        have ff := HRl7.out.cnt.frozen 1
        have HRl8 := Lib.hid (HRl7.out.more 1 (j0 := cnt (kis z n l k ++ [1]) 0) (j1 := cnt (kis z n l k ++ [1]) 1) (j2 := cnt (kis z n l k ++ [1]) 2) (j3 := cnt (kis z n l k ++ [1]) 3) ((cnt (kis z n l k) 1 : Int) + 1) (by simp [cnt_snoc]))
        go_wp2
        go_roundw
        case rel => exact ⟨k + 1, by omega, by go_num, A7, c7, by rw [HPk1.out, List.length_append, hYl], by rw [HPk1.out, HKk1.out]; exact HRl8⟩
        case measure => simp [intOf]; omega
    · have hkM : k = M := by omega
      subst hkM
      have c0 : wr.cell? ⟨F, 0, none⟩ = some (.int .i64 (cnt (kis z n l k) 0)) := hR.out.cnt.cell 0
      have c1 : wr.cell? ⟨F, 1, none⟩ = some (.int .i64 (cnt (kis z n l k) 1)) := hR.out.cnt.cell 1
      have c2 : wr.cell? ⟨F, 2, none⟩ = some (.int .i64 (cnt (kis z n l k) 2)) := hR.out.cnt.cell 2
      have c3 : wr.cell? ⟨F, 3, none⟩ = some (.int .i64 (cnt (kis z n l k) 3)) := hR.out.cnt.cell 3
      have r0 : wr.cell? ⟨S, 0, none⟩ = some (.int .i64 0) := hR.out.res.cell 0
      have r1 : wr.cell? ⟨S, 1, none⟩ = some (.int .i64 0) := hR.out.res.cell 1
      have r2 : wr.cell? ⟨S, 2, none⟩ = some (.int .i64 0) := hR.out.res.cell 2
      have r3 : wr.cell? ⟨S, 3, none⟩ = some (.int .i64 0) := hR.out.res.cell 3
      have q0 := hR.out.res.frozen 0
      have q1 := hR.out.res.frozen 1
      have q2 := hR.out.res.frozen 2
      have q3 := hR.out.res.frozen 3
      have hSF := hR.out.f1
      have hFV := hR.out.f3
      have hk4 := ov4_blk (a := (cnt (kis z n l k) 0 : Int)) (b := (cnt (kis z n l k) 1 : Int)) (c := (cnt (kis z n l k) 2 : Int)) (d := (cnt (kis z n l k) 3 : Int)) hR.out.res
      have HBf : Hid (Below S w (ov4 wr S (cnt (kis z n l k) 0) (cnt (kis z n l k) 1) (cnt (kis z n l k) 2) (cnt (kis z n l k) 3)).drew) := Lib.hid (ov4_below hR.out.bel (Nat.le_refl _)).drew
      have HRf : Hid (Rw (ov4 wr S (cnt (kis z n l k) 0) (cnt (kis z n l k) 1) (cnt (kis z n l k) 2) (cnt (kis z n l k) 3)).drew A (pcs z n l k)) := Lib.hid (by
        have hof := (hR.out.out.lt)
        have hne : ∀ g, (Value.slice A (pcs z n l k).length cp).ownBlock = some g → g ≠ S := fun g hg => by have := (hof g hg).1; omega
        have keep : ∀ (W : World) (i : Nat) (u : Value), W.ownsRow V 5 1 (.slice A (pcs z n l k).length cp) (pcs z n l k).length ((pcs z n l k).map (Value.int .u8)) → (W.setCell ⟨S, i, none⟩ u).ownsRow V 5 1 (.slice A (pcs z n l k).length cp) (pcs z n l k).length ((pcs z n l k).map (Value.int .u8)) := fun W i u h =>
          h.kept (row := some S) ⟨rfl, rfl, rfl, by simp [World.setCell], fun k _ hk => Below.heap_setCell _ _ _ _ (fun e => hk (by rw [e]))⟩ (.inr fun e => hne S e rfl)
        have hfin := keep _ 3 (.int .i64 (cnt (kis z n l k) 3)) (keep _ 2 (.int .i64 (cnt (kis z n l k) 2)) (keep _ 1 (.int .i64 (cnt (kis z n l k) 1)) (keep _ 0 (.int .i64 (cnt (kis z n l k) 0)) hR.out.out)))
        obtain ⟨A5, c5, he, hR5, -, -⟩ := Rw.of_own (own_below hfin (Below.drew (Below.refl _ _))) (HPU.out k)
        injection he with e1 e2 e3
        subst e1
        exact hR5)
      have d0 := hk4.cell 0
      have d1 := hk4.cell 1
      have d2 := hk4.cell 2
      have d3 := hk4.cell 3
      clear hk4
      simp only [ov4] at d0 d1 d2 d3
      go_wp2_with fail
      go_region
      all_goals
        go_wp2
        exact bodyPost_ret (v := .tuple #[.slice A (pcs z n l k).length cp, .agg #[.int .i64 (cnt (kis z n l k) 0), .int .i64 (cnt (kis z n l k) 1), .int .i64 (cnt (kis z n l k) 2), .int .i64 (cnt (kis z n l k) 3)], .int .i64 0]) (by simp [results, Try.results19, go_sem, d0, d1, d2, d3]) rfl ⟨⟨A, _, cp, rfl, rfl, HRf.out⟩, by rw [hS]; exact HBf.out⟩
end Go.Proofs.Ytdcpbbfaakddaaa
