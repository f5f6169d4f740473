/-
  An entry added: the program's answer. Nothing of one statement alone stands here.
-/
import Derived.Test.YtbgimehbencdgaaDirList
import Derived.Test.YtbgimehbencdgaaDirOpen
import Derived.BigRegion
import Derived.RegionTactic
import Derived.ChangeAlike
namespace Go.Proofs.Ytbgimehbencdgaa
open Go.RowKit Crcm Tagm Dirm Go.ChangeShapes

theorem mkn (n : Nat) (hn : n ≤ 100000) (W : World) : (Instr.makeSlice 24 (.int .i64 n) (.int .i64 n)).run Try.prog W = .ok (.slice (some ⟨W.heap.size, 0, none⟩) n n) (W.alloc (.cells (Array.replicate n (Value.int .u8 0)) 5)) := by
  obtain ⟨i0, hi, hz0, hz1, hz2⟩ := info_parts Try.info8
  have := run_make (P := Try.prog) W 24 5 i0 (.int .u8 0) Try.underlying24 hi hz0 .i64 .i64 (n : Int) (n : Int) (by omega) (Int.le_refl _) (by rw [hz2]; omega) (by omega)
  rw [this, hz1]
  have e : madeCells (Value.int .u8 0).cells (Int.toNat (n : Int) * 1) = Array.replicate n (Value.int .u8 0) := by
    apply Array.toList_inj.1
    rw [show Int.toNat (n : Int) * 1 = n by omega]
    show (madeCells #[Value.int .u8 0] n).toList = _
    rw [toList_madeCells_one, Array.toList_replicate]
  rw [e]
  simp
theorem own_mkn (n : Nat) (hn : n ≤ 100000) (W : World) : (W.alloc (.cells (Array.replicate n (Value.int .u8 0)) 5)).ownsRow W.heap.size 5 1 (.slice (some ⟨W.heap.size, 0, none⟩) n n) n ((List.replicate n (0 : Int)).map (Value.int .u8)) := by
  refine ⟨by simp, .inr ⟨W.heap.size, n, _, rfl, Nat.le_refl _, Blk.new W 5 (Array.replicate n (Value.int .u8 0)), Nat.le_refl _, by unfold maxLen; omega, by simp, ?_⟩⟩
  rw [Array.toList_replicate, List.map_replicate, Nat.mul_one, List.take_replicate, Nat.min_self]
/-- bytes from anywhere laid over a row of the call's own -/
theorem run_lay_any {w : World} {base g n cap : Nat} {xs : List Int} (hown : w.ownsRow base 5 1 (.slice (some ⟨g, 0, none⟩) n cap) n (xs.map (Value.int .u8)))
    (off d dc m c : Nat) (a : Option Addr) (l : List Int) (hr : Rw w a l) (hl : l.length = m) (hfit : off + d ≤ n) :
    ∃ w' k, (∀ ty, (Builtin.copy_ #[24, 24] ty #[.slice (some ⟨g, off, none⟩) d dc, .slice a m c]).run Try.prog w = .ok (.int .i64 k) w') ∧
      w'.ownsRow base 5 1 (.slice (some ⟨g, 0, none⟩) n cap) n ((splice xs off (l.take d)).map (Value.int .u8)) ∧ ∀ B w0, Below B w0 w → B ≤ base → Below B w0 w' := by
  by_cases h0 : l = []
  · subst h0
    obtain rfl : m = 0 := by simpa using hl.symm
    obtain ⟨i0, hi, hz0, hz1, hz2⟩ := info_parts Try.info8
    have HI : (Try.prog.info? 5).map (·.size) = some 1 := by rw [hi]; simp [hz1]
    refine ⟨w, 0, fun ty => run_copy_none (P := Try.prog) w 24 24 ty 5 (some ⟨g, off, none⟩) a d dc 0 c Try.underlying24 HI (Nat.zero_min d), ?_, fun _ _ h _ => h⟩
    rw [List.take_nil, show splice xs off ([] : List Int) = xs by simp [splice]]
    exact hown
  · obtain ⟨b, o, rfl⟩ := hr.addr (List.length_pos_iff.2 h0)
    exact run_lay hown off d dc m c b o l hr hl hfit
/-- what an entry more asks for -/
def adE (l : List Int) (i : Int) (s : ByteArray) : Int := if ck l = 0 then (if wE i s = 0 then (if (fd l s).1 < 0 then 0 else 61) else wE i s) else 50
def adL (l : List Int) (i : Int) (s : ByteArray) : List Int := if adE l i s = 0 then adB l (sb i s) else []
theorem ex_copy {l : List Int} {M : Nat} (hM : l.length ≤ M) : splice (List.replicate M 0) 0 (l.take M) = l ++ List.replicate (M - l.length) 0 := by
  unfold splice
  rw [List.take_zero, List.nil_append, List.take_of_length_le hM, Nat.zero_add, List.drop_replicate]

set_option maxRecDepth 100000 in
set_option maxHeartbeats 2000000 in
theorem dadd_any (l : List Int) (i : Int) (s : ByteArray) (a : Option Addr) (m c : Nat) (w : World) (hr : Rw w a l) (hl : l.length = m) (hmc : m ≤ c) (c1 : c ≤ 9223372036854775807) (m2 : m ≤ 20000) :
    Calls Try.prog 16 #[.slice a m c, ev i s] w fun e w' => (∃ A c', e = .returned (.tuple #[.slice A (adL l i s).length c', .int .i64 (adE l i s)]) ∧ (adL l i s).length ≤ c' ∧ c' ≤ 9223372036854775807 ∧ Rw w' A (adL l i s)) ∧ Below w.heap.size w w' := by
  have B0 : Below w.heap.size w (w.alloc (.cells #[.int .i64 i, .string s] 23)) := (Below.refl _ _).alloc (Nat.le_refl _) _
  have k0 : Blk (w.alloc (.cells #[.int .i64 i, .string s] 23)) w.heap.size 23 #[.int .i64 i, .string s] := Blk.new _ _ _
  have hr0 := hr.below B0
  obtain ⟨W0, hW0⟩ : ∃ W0, w.alloc (.cells #[.int .i64 i, .string s] 23) = W0 := ⟨_, rfl⟩
  rw [hW0] at B0 k0 hr0
  have HW0 := Lib.hid hW0
  clear hW0
  have HC := Lib.hid (check_any l a c m W0 hr0 hl hmc c1 (by omega))
  by_cases hck : ck l = 0
  · rw [hck] at HC
    have HWr := Lib.hid (fun W => dwrite_all i s W)
    by_cases hw : wE i s = 0
    · rw [hw] at HWr
      have eB : wB i s = sb i s := by unfold wB; rw [if_pos hw]
      rw [eB] at HWr
      have HF := Lib.hid (fun W (hb : Rw W a l) => find_any l s a m c W hb hl hmc c1)
      by_cases hf : (fd l s).1 < 0
      · have e1 : adE l i s = 0 := by unfold adE; rw [if_pos hck, if_pos hw, if_pos hf]
        have e2 : adL l i s = adB l (sb i s) := by unfold adL; rw [if_pos e1]
        rw [e1, e2]
        have HRm := Lib.hid (fun W (hb : Rw W a l) => room_any l a c m W hb hl hmc c1)
        have hRt := rt_of_ck hck
        have hmN : l.length / 16 * 16 = m := by have := hRt.len; omega
        obtain ⟨N, hN⟩ : ∃ N, l.length / 16 = N := ⟨_, rfl⟩
        rw [hN] at hRt hmN
        have hx : (sb i s).length = 16 := sb_length (w_yes hw).2.1.2
        have hxU := sb_U8 (w_yes hw).1 (w_yes hw).2
        obtain ⟨x1, x2, x3, x4, x5⟩ := hRt.exS
        have hAl := adB_len (x := sb i s) hRt hx
        have hrm := hRt.rmS.1
        obtain ⟨M, hM⟩ : ∃ M, adN l * 16 = M := ⟨_, rfl⟩
        have hexM : l ++ List.replicate (M - m) 0 = ex l := by
          have h2 : (ex l).length = M := by rw [x1, hM]
          unfold ex at h2 ⊢
          rw [List.length_append, List.length_replicate] at h2
          congr 2
          omega
        have hMm : (rm l < N ∧ M = m) ∨ (rm l = N ∧ M = m + 16) := by
          unfold adN at hM
          rw [hN] at hM
          split at hM
          · left; omega
          · right; omega
        rw [hAl, hM]
        rw [hM] at x1 hAl
        have hRM : rm l * 16 + 16 ≤ M := by omega
        have HAd : Hid (splice (ex l) (rm l * 16) ((sb i s).take 16) = adB l (sb i s)) := Lib.hid (by rw [List.take_of_length_le (by omega)]; rfl)
        obtain ⟨r, hrr⟩ : ∃ r, rm l = r := ⟨_, rfl⟩
        rw [hrr] at HRm hMm hRM HAd
        have HMk := Lib.hid (fun W => mkn M (by omega) W)
        have HEx : Hid (splice (List.replicate M 0) 0 (l.take M) = ex l) := Lib.hid (by rw [ex_copy (by omega), hl, hexM])
        have HX : Hid (∀ b ∈ ex l, U8 b) := Lib.hid (by
          intro b hb
          unfold ex at hb
          rcases List.mem_append.1 hb with g | g
          · exact hr0.1 b g
          · rw [(List.mem_replicate.1 g).2]; unfold U8; omega)
        have HXU := Lib.hid hxU
        have HX1 := Lib.hid x1
        have HXL := Lib.hid hx
        have HR0 := Lib.hid hr0
        have HL := Lib.hid hl
        have hM2 : M ≤ 100000 := by omega
        have HM2 := Lib.hid hM2
        have HB0 := Lib.hid B0
        obtain ⟨p, hp⟩ : ∃ p, (fd l s).1 = p := ⟨_, rfl⟩
        obtain ⟨q, hq⟩ : ∃ q, (fd l s).2 = q := ⟨_, rfl⟩
        rw [hp, hq] at HF
        rw [hp] at hf
        have n1 : M ≤ 9223372036854775807 := by omega
        have n2 : m ≤ 9223372036854775807 := by omega
        have v0 : W0.cell? ⟨w.heap.size, 0, none⟩ = some (.int .i64 i) := k0.cell 0
        have v1 : W0.cell? ⟨w.heap.size, 1, none⟩ = some (.string s) := k0.cell 1
        rw [hx] at HWr
        clear hr hl hck hw eB e1 e2 hRt hx hxU x1 x2 x3 x4 x5 hAl hN hrr hp hq hexM hr0 hM hrm hM2
        unfold ev at HWr ⊢
        go_enter Try.func16, Try.ntmps16
        go_wp2_with fail
        rw [HW0.out]
        refine HC.out.mono ?_
        rintro e w1 ⟨rfl, hb1⟩
        have b1 := HB0.out.trans (hb1.mono HB0.out.size)
        have c0 := (hb1.cell (block_lt_of_cell v0)).trans v0
        have c1' := (hb1.cell (block_lt_of_cell v1)).trans v1
        have r1 := HR0.out.below hb1
        clear v0 v1 hb1
        go_wp2_with fail
        refine (HWr.out _).mono ?_
        rintro e w2 ⟨⟨A, ca, rfl, hca, hcm, hA⟩, hb2⟩
        have b2 := b1.trans (hb2.mono b1.size)
        have d1 := (hb2.cell (block_lt_of_cell c1')).trans c1'
        have r2 := r1.below hb2
        clear c0 c1' b1 r1 hb2
        go_wp2_with fail
        refine (HF.out _ r2).mono ?_
        rintro e w3 ⟨rfl, hb3⟩
        have b3 := b2.trans (hb3.mono b2.size)
        have r3 := r2.below hb3
        have hA3 := hA.below hb3
        clear d1 b2 r2 hA hb3
        go_wp2_with fail
        refine (HRm.out _ r3).mono ?_
        rintro e w' ⟨rfl, rfl⟩
        have hmk := HMk.out
        have hmm : ∀ V : Int, V = (M : Int) → ∀ W, (Instr.makeSlice 24 (.int .i64 V) (.int .i64 V)).run Try.prog W = .ok (.slice (some ⟨W.heap.size, 0, none⟩) M M) (W.alloc (.cells (Array.replicate M (Value.int .u8 0)) 5)) := fun V e W => by rw [e]; exact hmk W
        have h3 := hmm (max (m : Int) (((r : Int) + 1) * 16)) (by omega)
        have b4 := b3.alloc b3.size (.cells (Array.replicate M (Value.int .u8 0)) 5)
        have hal := (Below.refl w3.heap.size w3).alloc (Nat.le_refl _) (.cells (Array.replicate M (Value.int .u8 0)) 5)
        obtain ⟨w5, k5, hrun5, hown5, hbel5⟩ := run_lay_any (own_mkn M HM2.out w3) 0 M M m c a l (r3.below hal) HL.out (by omega)
        rw [HEx.out] at hown5
        have b5 := hbel5 _ _ b4 b3.size
        have hA5 := hA3.below (hbel5 _ _ hal (Nat.le_refl _))
        obtain ⟨w6, k6, hrun6, hown6, hbel6⟩ := run_lay_any hown5 (r * 16) 16 (M - r * 16) 16 ca A (sb i s) hA5 HXL.out (by omega)
        rw [HAd.out] at hown6
        have b6 := hbel6 _ _ b5 b3.size
        have HO6 := Lib.hid hown6
        have HB6 := Lib.hid b6
        have HS := Lib.hid (fun w => slot_any w3.heap.size 0 M M r w (by omega) n1)
        rw [Nat.zero_add] at HS
        clear hal b4 b5 hA5 hown5 hown6 b6 hbel5 hbel6 b3 r3 hA3 hmk hmm
        go_wp2_with fail
        refine (HS.out _).mono ?_
        rintro e w' ⟨rfl, rfl⟩
        go_wp2
        go_ret2
        obtain ⟨a4, cap4, e4, hrw4, hlen4, hcap4⟩ := Rw.of_own HO6.out (by rw [← HAd.out]; exact splice_u8 HX.out (fun b hb => HXU.out b (List.mem_of_mem_take hb)))
        injection e4 with f1 f2 f3
        subst f1 f3
        exact ⟨⟨_, _, rfl, Nat.le_refl _, n1, hrw4⟩, HB6.out⟩
      · have e1 : adE l i s = 61 := by unfold adE; rw [if_pos hck, if_pos hw, if_neg hf]
        have e2 : adL l i s = [] := by unfold adL; rw [if_neg (by rw [e1]; decide)]
        rw [e1, e2]
        have HR0 := Lib.hid hr0
        have HB0 := Lib.hid B0
        have v0 : W0.cell? ⟨w.heap.size, 0, none⟩ = some (.int .i64 i) := k0.cell 0
        have v1 : W0.cell? ⟨w.heap.size, 1, none⟩ = some (.string s) := k0.cell 1
        obtain ⟨p, hp⟩ : ∃ p, (fd l s).1 = p := ⟨_, rfl⟩
        obtain ⟨q, hq⟩ : ∃ q, (fd l s).2 = q := ⟨_, rfl⟩
        rw [hp, hq] at HF
        rw [hp] at hf
        have hf2 : 0 ≤ p := by omega
        obtain ⟨x, hx⟩ : ∃ x, sb i s = x := ⟨_, rfl⟩
        rw [hx] at HWr
        unfold ev at HWr ⊢
        clear hr hl hck hw eB e1 e2 hr0 hp hq hx hf
        go_enter Try.func16, Try.ntmps16
        go_wp2_with fail
        rw [HW0.out]
        refine HC.out.mono ?_
        rintro e w1 ⟨rfl, hb1⟩
        have b1 := HB0.out.trans (hb1.mono HB0.out.size)
        have c0 := (hb1.cell (block_lt_of_cell v0)).trans v0
        have c1' := (hb1.cell (block_lt_of_cell v1)).trans v1
        have r1 := HR0.out.below hb1
        clear v0 v1 hb1
        go_wp2_with fail
        refine (HWr.out _).mono ?_
        rintro e w2 ⟨⟨A, ca, rfl, hca, hcm, hA⟩, hb2⟩
        have b2 := b1.trans (hb2.mono b1.size)
        have d1 := (hb2.cell (block_lt_of_cell c1')).trans c1'
        have r2 := r1.below hb2
        clear c0 c1' b1 r1 hb2
        go_wp2_with fail
        refine (HF.out _ r2).mono ?_
        rintro e w3 ⟨rfl, hb3⟩
        have b3 := b2.trans (hb3.mono b2.size)
        clear d1 b2 r2 hA hb3
        go_wp2
        go_ret2
        exact ⟨⟨none, 0, rfl, Nat.le_refl _, by omega, Rw.nil⟩, b3⟩
    · have e1 : adE l i s = wE i s := by unfold adE; rw [if_pos hck, if_neg hw]
      have e2 : adL l i s = [] := by unfold adL; rw [if_neg (by rw [e1]; exact hw)]
      rw [e1, e2]
      have HR0 := Lib.hid hr0
      have HB0 := Lib.hid B0
      have v0 : W0.cell? ⟨w.heap.size, 0, none⟩ = some (.int .i64 i) := k0.cell 0
      have v1 : W0.cell? ⟨w.heap.size, 1, none⟩ = some (.string s) := k0.cell 1
      obtain ⟨x, hx⟩ : ∃ x, wB i s = x := ⟨_, rfl⟩
      obtain ⟨y, hy⟩ : ∃ x, wE i s = x := ⟨_, rfl⟩
      rw [hx, hy] at HWr
      rw [hy] at hw ⊢
      have hy2 : (y != 0) = true := by simpa using hw
      unfold ev at HWr ⊢
      clear hr hl hck hw e1 e2 hr0 hx hy
      go_enter Try.func16, Try.ntmps16
      go_wp2_with fail
      rw [HW0.out]
      refine HC.out.mono ?_
      rintro e w1 ⟨rfl, hb1⟩
      have b1 := HB0.out.trans (hb1.mono HB0.out.size)
      have c0 := (hb1.cell (block_lt_of_cell v0)).trans v0
      have c1' := (hb1.cell (block_lt_of_cell v1)).trans v1
      clear v0 v1 hb1
      go_wp2_with fail
      refine (HWr.out _).mono ?_
      rintro e w2 ⟨⟨A, ca, rfl, hca, hcm, hA⟩, hb2⟩
      have b2 := b1.trans (hb2.mono b1.size)
      clear c0 c1' b1 hb2
      go_wp2
      go_ret2
      exact ⟨⟨none, 0, rfl, Nat.le_refl _, by omega, Rw.nil⟩, b2⟩
  · have h5 := (ck_range l).resolve_left hck
    have e1 : adE l i s = 50 := by unfold adE; rw [if_neg hck]
    have e2 : adL l i s = [] := by unfold adL; rw [if_neg (by rw [e1]; decide)]
    rw [e1, e2]
    rw [h5] at HC
    have HB0 := Lib.hid B0
    unfold ev
    clear hr hl hck h5 e1 e2 hr0
    go_enter Try.func16, Try.ntmps16
    go_wp2_with fail
    rw [HW0.out]
    refine HC.out.mono ?_
    rintro e w1 ⟨rfl, hb1⟩
    have b1 := HB0.out.trans (hb1.mono HB0.out.size)
    go_wp2
    go_ret2
    exact ⟨⟨none, 0, rfl, Nat.le_refl _, by omega, Rw.nil⟩, b1⟩

end Go.Proofs.Ytbgimehbencdgaa
