/-
  An entry removed, and one turned: the program's answers. Nothing of one statement alone stands here.
-/
import Derived.Test.YtbgimehbencdgaaDirAdd
import Derived.Lib.SliceRun
import Derived.Laws.IdiomCopy
namespace Go.Proofs.Ytbgimehbencdgaa
open Go.RowKit Crcm Tagm Dirm Go.ChangeShapes

theorem slot_i (b off n c k : Nat) (K : Int) (w : World) (hK : K = k) (hk : k * 16 + 16 ≤ c) (hc : c ≤ 9223372036854775807) :
    Calls Try.prog 31 #[.slice (some ⟨b, off, none⟩) n c, .int .i64 K] w fun e w' => e = .returned (.slice (some ⟨b, off + k * 16, none⟩) 16 (c - k * 16)) ∧ w = w' := by
  subst hK
  exact slot_any b off n c k w hk hc
theorem Blk.sets {g : Nat} {t : TypeId} : ∀ (vs : List Value) (o : Nat) (w : World) (cs : Array Value), Blk w g t cs → o + vs.length ≤ cs.size → Blk (w.setCells g o vs) g t (cs.toList.take o ++ vs ++ cs.toList.drop (o + vs.length)).toArray
  | [], o, _, cs, h, _ => by
    have e : (cs.toList.take o ++ ([] : List Value) ++ cs.toList.drop (o + ([] : List Value).length)).toArray = cs := by simp
    rw [e]
    exact h
  | v :: r, o, w, cs, h, hl => by
    simp only [List.length_cons] at hl
    have ih := Blk.sets r (o + 1) (w.setCell ⟨g, o, none⟩ v) _ (h.put o v) (by simp; omega)
    have e := list_seg_step cs.toList o v r (by simp; omega)
    rw [Array.toList_setIfInBounds, e] at ih
    exact ih
theorem below_sets {B g : Nat} (hg : B ≤ g) : ∀ (vs : List Value) (o : Nat) (w0 w : World), Below B w0 w → Below B w0 (w.setCells g o vs)
  | [], _, _, _, h => h
  | v :: r, o, w0, _, h => below_sets hg r (o + 1) w0 _ (h.setCell (p := ⟨g, o, none⟩) hg v)
theorem u8zero (w : World) : (zeroValue 5).run Try.prog w = .ok (.int .u8 0) w := by kernel_rfl
/-- bytes of a row of the call's own made 0 -/
theorem run_clr {w : World} {base g n cap : Nat} {xs : List Int} (hown : w.ownsRow base 5 1 (.slice (some ⟨g, 0, none⟩) n cap) n (xs.map (Value.int .u8))) (off d dc : Nat) (hd : 0 < d) (hfit : off + d ≤ n) :
    ∃ w', (∀ ty, (Builtin.clear_ #[24] ty #[.slice (some ⟨g, off, none⟩) d dc]).run Try.prog w = .ok (.tuple #[]) w') ∧
      w'.ownsRow base 5 1 (.slice (some ⟨g, 0, none⟩) n cap) n ((splice xs off (List.replicate d 0)).map (Value.int .u8)) ∧ ∀ B w0, Below B w0 w → B ≤ base → Below B w0 w' := by
  obtain ⟨hxl, hown⟩ := hown
  rcases hown with ⟨h0, _⟩ | ⟨g', cap', cur, h0, hbg, hg, hnc, hcm, hsz, ht⟩
  · cases h0
  injection h0 with e1 e2 e3
  injection e1 with e1
  injection e1 with e1
  subst e1 e3
  have hB : Blk w g 5 cur := hg
  have ht' : cur.toList.take n = xs.map (Value.int .u8) := by simpa using ht
  have hsz' : cur.size = cap := by omega
  have hX : (xs.map (Value.int .u8)).length = n := by simpa using hxl
  refine ⟨_, fun ty => Lib.run_clear_slice (P := Try.prog) w 24 5 ty (.int .u8 0) Try.underlying24 u8zero rfl rfl g off d dc hd (fun j hj => by
    rw [hB.cell, Array.getElem?_eq_getElem (by omega)]; rfl) (fun j _ => hB.frozen _), ⟨?_, .inr ⟨g, cap, _, rfl, hbg, Blk.sets (List.replicate d (.int .u8 0)) off w cur hB (by simp; omega), hnc, hcm, ?_, ?_⟩⟩, fun B w0 h hb => below_sets (Nat.le_trans hb hbg) _ _ _ _ h⟩
  · rw [List.length_map] at hX ⊢
    rw [length_splice _ _ _ (by simp; omega), hX, Nat.mul_one]
  · simp; omega
  · rw [Nat.mul_one, List.toList_toArray, List.append_assoc, lay_take ht' hX (by simp; omega)]
    simp [splice]

theorem cutTop (b n cap x : Nat) (X : Int) (hX : X = (x : Int)) (h : x ≤ cap) (W : World) :
    (Instr.slice 24 (.slice (some ⟨b, 0, none⟩) n cap) none (some (.int .i64 X)) none).run Try.prog W = .ok (.slice (some ⟨b, 0, none⟩) x cap) W := by
  subst hX
  have he : Try.prog.underlying 24 = some (.slice (Try.prog.elem 24)) := by rw [elemB, Try.underlying24]
  rw [run_slice_h W _ _ _ _ he .i64 _ (by omega) (by omega), elemB, Try.sizeOf5]
  simp [Result.andThen, sliced, Addr.add]

def rmL (l : List Int) (s : ByteArray) : List Int := if wkE l s = 0 then rmB l (wk l s).toNat else []
theorem wkE_range (l : List Int) (s : ByteArray) : wkE l s = 0 ∨ wkE l s = 60 ∨ wkE l s = 50 := by
  unfold wkE
  split
  · split
    · exact .inr (.inl rfl)
    · exact .inl rfl
  · exact .inr (.inr ((ck_range l).resolve_left (by assumption)))
theorem wk_yes {l : List Int} {s : ByteArray} (h : wkE l s = 0) : ck l = 0 ∧ Rt l (l.length / 16) ∧ ∃ k : Nat, wk l s = (k : Int) ∧ (fd l s).1 = (k : Int) ∧ k < l.length / 16 ∧ rU (slotL l k) = true ∧ eS (slotL l k) = s := by
  unfold wkE at h
  split at h
  · rename_i hc
    split at h
    · exact absurd h (by decide)
    · rename_i hf
      obtain ⟨k, hk, hk2, hu, hs⟩ := (rt_of_ck hc).yes hf
      exact ⟨hc, rt_of_ck hc, k, by unfold wk; rw [if_pos hc, if_neg hf, hk], hk, hk2, hu, hs⟩
  · rename_i hc
    exact absurd h hc

set_option maxRecDepth 100000 in
set_option maxHeartbeats 2000000 in
theorem dremove_any (l : List Int) (s : ByteArray) (a : Option Addr) (m c : Nat) (w : World) (hr : Rw w a l) (hl : l.length = m) (hmc : m ≤ c) (c1 : c ≤ 9223372036854775807) (m2 : m ≤ 20000) :
    Calls Try.prog 17 #[.slice a m c, .string s] w fun e w' => (∃ A c', e = .returned (.tuple #[.slice A (rmL l s).length c', .int .i64 (wkE l s)]) ∧ (rmL l s).length ≤ c' ∧ c' ≤ 9223372036854775807 ∧ Rw w' A (rmL l s)) ∧ Below w.heap.size w w' := by
  have HW := Lib.hid (where_any l s a m c w hr hl hmc c1 (by omega))
  by_cases he : wkE l s = 0
  · obtain ⟨hck, hRt, k, hwk, hfd, hkN, hu, hs⟩ := wk_yes he
    have eL : rmL l s = rmB l k := by unfold rmL; rw [if_pos he, hwk]; rfl
    rw [eL, he]
    rw [he, hwk] at HW
    obtain ⟨hBl, hBn⟩ := rmB_len hRt hkN
    rw [hBl]
    obtain ⟨N, hN⟩ : ∃ N, l.length / 16 = N := ⟨_, rfl⟩
    rw [hN] at hRt hkN hBn
    have hmN : N * 16 = m := by have := hRt.len; omega
    have hst : rmN l k = stN (clB l k) N := by unfold rmN; rw [hN]
    obtain ⟨b, off, rfl⟩ := hr.addr (by omega)
    have HC := Lib.hid (fun W (h : Rw W (some ⟨b, off, none⟩) l) => bclone_any m c b off l W h hl (by omega))
    have HCl : Hid (splice l (k * 16) (List.replicate 16 0) = clB l k) := Lib.hid rfl
    have hCL : (clB l k).length = m := by rw [← hmN]; exact pw_len hRt.len hkN z16_len
    have HLn := Lib.hid (fun j (hj : j < N) => slotL_len (l := clB l k) (k := j) (by omega))
    have HCU : Hid (∀ x ∈ clB l k, U8 x) := Lib.hid (pw_u8 hr.1 (by intro x hx; rw [(List.mem_replicate.1 hx).2]; unfold U8; omega))
    have HT : Hid (rmB l k = (clB l k).take (rmN l k * 16)) := Lib.hid rfl
    obtain ⟨L, hL⟩ : ∃ L, clB l k = L := ⟨_, rfl⟩
    obtain ⟨q, hq⟩ : ∃ q, rmN l k = q := ⟨_, rfl⟩
    rw [hL] at HCl hst HLn HCU HT
    rw [hq] at HT hst hBn
    have HQ : Hid (stN L N = q) := Lib.hid hst.symm
    have HR := Lib.hid hr
    have n1 : m ≤ 9223372036854775807 := by omega
    have HNm := Lib.hid hmN
    have nN : N ≤ 20000 := by omega
    rw [hq]
    have HBn := Lib.hid hBn
    clear hr hl he hck hRt hwk hfd hu hs eL hBl hN hst hCL hL hq hmN hBn
    go_enter Try.func17, Try.ntmps17
    go_wp2_with fail
    refine HW.out.mono ?_
    rintro e w1 ⟨rfl, hb1⟩
    have r1 := HR.out.below hb1
    go_wp2_with fail
    refine (HC.out _ r1).mono ?_
    rintro e w2 ⟨⟨g, cc, rfl, hcc, hg, hown⟩, hb2⟩
    have b2 := hb1.trans (hb2.mono hb1.size)
    obtain ⟨w3, hrun, hown3, hbel3⟩ := run_clr hown (k * 16) 16 (cc - k * 16) (by omega) (by have := HNm.out; omega)
    rw [HCl.out] at hown3
    have HO3 := Lib.hid hown3
    have HB3 := Lib.hid (hbel3 _ _ b2 hb1.size)
    obtain ⟨a4, cap4, e4, hrw4, hlen4, hcap4⟩ := Rw.of_own hown3 HCU.out
    injection e4 with f1 f2 f3
    subst f1 f3
    have hcm : cc ≤ 9223372036854775807 := by
      rcases hown3.2 with ⟨h, _⟩ | ⟨_, _, _, h, _, _, _, hm, _, _⟩
      · cases h
      · injection h with _ _ h; subst h; unfold maxLen at hm; omega
    have HRW := Lib.hid hrw4
    have HS := Lib.hid (fun w (j : Nat) (J : Int) (hJ : J = (j : Int)) (hj : j < N) => (by have := slot_i g 0 m cc j J w hJ (by have := HNm.out; omega) hcm; rwa [Nat.zero_add] at this : Calls Try.prog 31 #[.slice (some ⟨g, 0, none⟩) m cc, .int .i64 J] w fun e w' => e = .returned (.slice (some ⟨g, j * 16, none⟩) 16 (cc - j * 16)) ∧ w = w'))
    have HK := Lib.hid (slot_any g 0 m cc k w2 (by have := HNm.out; omega) hcm)
    rw [Nat.zero_add] at HK
    have HCn := Lib.hid (fun w => count_any (some ⟨g, 0, none⟩) cc m w n1)
    rw [show m / 16 = N by have := HNm.out; omega] at HCn
    clear r1 hb1 hb2 b2 hown hown3 hbel3 hrw4 hlen4 hcap4 HC HW hg
    go_wp2_with fail
    refine HK.out.mono ?_
    rintro e w' ⟨rfl, rfl⟩
    go_wp2_with fail
    refine (HCn.out _).mono ?_
    rintro e w' ⟨rfl, rfl⟩
    clear HK HCn hrun
    go_wp2_with fail
    go_loop [9] (fun i => ∃ j : Nat, j ≤ N ∧ i = .int .i64 j ∧ Hid (stN L j = q)) (fun i => (intOf i).toNat)
    case atStart => exact ⟨N, Nat.le_refl _, rfl, HQ⟩
    case round =>
      obtain ⟨j, hj, rfl, E⟩ := hrel
      by_cases h0 : 0 < j
      · obtain ⟨j, rfl⟩ : ∃ x, j = x + 1 := ⟨j - 1, by omega⟩
        have HE := Lib.hid (empty_any (slotL L j) (some ⟨g, j * 16, none⟩) (cc - j * 16) 16 w3 (by have := HRW.out.slot j; rwa [Nat.zero_add] at this) (HLn.out j (by omega)) (by omega))
        by_cases hz : nz (slotL L j)
        · rw [decide_eq_true hz] at HE
          have E2 : Hid (stN L j = q) := Lib.hid (by have := E.out; rw [stN, if_pos hz] at this; exact this)
          clear E hz
          go_wp2_with fail
          refine (HS.out _ j _ (by omega) (by omega)).mono ?_
          rintro e w' ⟨rfl, rfl⟩
          go_wp2_with fail
          refine HE.out.mono ?_
          rintro e w' ⟨rfl, rfl⟩
          go_wp2
          go_round
          case rel => exact ⟨j, by omega, by go_num, E2⟩
          case measure => simp [intOf]
        · rw [decide_eq_false hz] at HE
          have hq : j + 1 = q := by have := E.out; rw [stN, if_neg hz] at this; exact this
          subst hq
          clear E hz
          go_wp2_with fail
          refine (HS.out _ j _ (by omega) (by omega)).mono ?_
          rintro e w' ⟨rfl, rfl⟩
          go_wp2_with fail
          refine HE.out.mono ?_
          rintro e w' ⟨rfl, rfl⟩
          have hct := cutTop g m cc ((j + 1) * 16) (((j : Int) + 1) * 16) (by omega) (by have := HNm.out; omega)
          go_wp2
          go_ret2
          exact ⟨⟨_, _, rfl, by have := HNm.out; omega, hcm, by rw [HT.out]; exact HRW.out.take _⟩, HB3.out⟩
      · obtain rfl : j = 0 := by omega
        have hq : 0 = q := by have := E.out; rw [stN] at this; exact this
        subst hq
        clear E
        have hct := cutTop g m cc 0 0 (by omega) (by omega)
        go_wp2
        go_ret2
        exact ⟨⟨some ⟨g, 0, none⟩, _, rfl, hcm, by rw [HT.out, Nat.zero_mul, List.take_zero]; exact Rw.nil⟩, HB3.out⟩
  · have eL : rmL l s = [] := by unfold rmL; rw [if_neg he]
    rw [eL]
    obtain ⟨k, hk⟩ : ∃ k, wk l s = k := ⟨_, rfl⟩
    obtain ⟨x, hx⟩ : ∃ x, wkE l s = x := ⟨_, rfl⟩
    rw [hk, hx] at HW
    rw [hx] at he ⊢
    have h2 : (x != 0) = true := by simpa using he
    clear hr hl he eL hk hx
    go_enter Try.func17, Try.ntmps17
    go_wp2_with fail
    refine HW.out.mono ?_
    rintro e w1 ⟨rfl, hb1⟩
    go_wp2
    go_ret2
    exact ⟨⟨none, 0, rfl, Nat.le_refl _, by omega, Rw.nil⟩, hb1⟩

def tuE (l : List Int) (s : ByteArray) (i : Int) : Int := if wkE l s = 0 then wE i s else wkE l s
def tuL (l : List Int) (s : ByteArray) (i : Int) : List Int := if tuE l s i = 0 then pw l (wk l s).toNat (sb i s) else []

set_option maxRecDepth 100000 in
set_option maxHeartbeats 2000000 in
theorem dturn_any (l : List Int) (s : ByteArray) (i : Int) (a : Option Addr) (m c : Nat) (w : World) (hr : Rw w a l) (hl : l.length = m) (hmc : m ≤ c) (c1 : c ≤ 9223372036854775807) (m2 : m ≤ 20000) :
    Calls Try.prog 18 #[.slice a m c, .string s, .int .i64 i] w fun e w' => (∃ A c', e = .returned (.tuple #[.slice A (tuL l s i).length c', .int .i64 (tuE l s i)]) ∧ (tuL l s i).length ≤ c' ∧ c' ≤ 9223372036854775807 ∧ Rw w' A (tuL l s i)) ∧ Below w.heap.size w w' := by
  have HW := Lib.hid (where_any l s a m c w hr hl hmc c1 (by omega))
  have HWr := Lib.hid (fun W => dwrite_all i s W)
  by_cases he : wkE l s = 0
  · obtain ⟨hck, hRt, k, hwk, hfd, hkN, hu, hs⟩ := wk_yes he
    rw [he, hwk] at HW
    have e1 : tuE l s i = wE i s := by unfold tuE; rw [if_pos he]
    by_cases hw : wE i s = 0
    · have eL : tuL l s i = pw l k (sb i s) := by unfold tuL; rw [if_pos (e1.trans hw), hwk]; rfl
      rw [eL, e1, hw]
      have eB : wB i s = sb i s := by unfold wB; rw [if_pos hw]
      have hx : (sb i s).length = 16 := sb_length (w_yes hw).2.1.2
      have hxU := sb_U8 (w_yes hw).1 (w_yes hw).2
      rw [hw, eB, hx] at HWr
      have hPl := pw_len hRt.len hkN hx
      rw [hPl]
      obtain ⟨N, hN⟩ : ∃ N, l.length / 16 = N := ⟨_, rfl⟩
      rw [hN] at hRt hkN hPl ⊢
      have hmN : N * 16 = m := by have := hRt.len; omega
      rw [hmN]
      obtain ⟨b, off, rfl⟩ := hr.addr (by omega)
      have HC := Lib.hid (fun W (h : Rw W (some ⟨b, off, none⟩) l) => bclone_any m c b off l W h hl (by omega))
      have HCl : Hid (splice l (k * 16) ((sb i s).take 16) = pw l k (sb i s)) := Lib.hid (by rw [List.take_of_length_le (by omega)]; rfl)
      have HPU : Hid (∀ x ∈ pw l k (sb i s), U8 x) := Lib.hid (pw_u8 hr.1 hxU)
      have HR := Lib.hid hr
      have n1 : m ≤ 9223372036854775807 := by omega
      have HNm := Lib.hid hmN
      have nN : N ≤ 20000 := by omega
      have HXL := Lib.hid hx
      unfold ev at HWr
      clear hr hl he hck hRt hwk hfd hu hs eL hN hmN e1 hw eB hx hxU hPl
      go_enter Try.func18, Try.ntmps18
      go_wp2_with fail
      refine HW.out.mono ?_
      rintro e w1 ⟨rfl, hb1⟩
      have r1 := HR.out.below hb1
      go_wp2_with fail
      refine (HWr.out _).mono ?_
      rintro e w2 ⟨⟨A, ca, rfl, hca, hcm, hA⟩, hb2⟩
      have b2 := hb1.trans (hb2.mono hb1.size)
      have r2 := r1.below hb2
      go_wp2_with fail
      refine (HC.out _ r2).mono ?_
      rintro e w3 ⟨⟨g, cc, rfl, hcc, hg, hown⟩, hb3⟩
      have b3 := b2.trans (hb3.mono b2.size)
      have hA3 := hA.below hb3
      obtain ⟨w6, k6, hrun6, hown6, hbel6⟩ := run_lay_any hown (k * 16) 16 (cc - k * 16) 16 ca A (sb i s) hA3 HXL.out (by have := HNm.out; omega)
      rw [HCl.out] at hown6
      have HO6 := Lib.hid hown6
      have HB6 := Lib.hid (hbel6 _ _ b3 b2.size)
      obtain ⟨a4, cap4, e4, hrw4, hlen4, hcap4⟩ := Rw.of_own hown6 HPU.out
      injection e4 with f1 f2 f3
      subst f1 f3
      have hcm2 : cc ≤ 9223372036854775807 := by
        rcases hown6.2 with ⟨h, _⟩ | ⟨_, _, _, h, _, _, _, hm, _, _⟩
        · cases h
        · injection h with _ _ h; subst h; unfold maxLen at hm; omega
      have HRW := Lib.hid hrw4
      have HK := Lib.hid (slot_any g 0 m cc k w3 (by have := HNm.out; omega) hcm2)
      rw [Nat.zero_add] at HK
      clear r1 r2 hb1 hb2 hb3 b2 b3 hA hA3 hown hown6 hbel6 hrw4 hlen4 hcap4 HC HW HWr hg
      go_wp2_with fail
      refine HK.out.mono ?_
      rintro e w' ⟨rfl, rfl⟩
      go_wp2
      go_ret2
      exact ⟨⟨_, _, rfl, hcc, hcm2, HRW.out⟩, HB6.out⟩
    · have eL : tuL l s i = [] := by unfold tuL; rw [if_neg (by rw [e1]; exact hw)]
      rw [eL, e1]
      obtain ⟨x, hx⟩ : ∃ x, wB i s = x := ⟨_, rfl⟩
      obtain ⟨y, hy⟩ : ∃ x, wE i s = x := ⟨_, rfl⟩
      rw [hx, hy] at HWr
      rw [hy] at hw ⊢
      have hy2 : (y != 0) = true := by simpa using hw
      unfold ev at HWr
      clear hr hl he hck hRt hwk hfd hu hs eL hw e1 hx hy
      go_enter Try.func18, Try.ntmps18
      go_wp2_with fail
      refine HW.out.mono ?_
      rintro e w1 ⟨rfl, hb1⟩
      go_wp2_with fail
      refine (HWr.out _).mono ?_
      rintro e w2 ⟨⟨A, ca, rfl, hca, hcm, hA⟩, hb2⟩
      have b2 := hb1.trans (hb2.mono hb1.size)
      go_wp2
      go_ret2
      exact ⟨⟨none, 0, rfl, Nat.le_refl _, by omega, Rw.nil⟩, b2⟩
  · have e1 : tuE l s i = wkE l s := by unfold tuE; rw [if_neg he]
    have eL : tuL l s i = [] := by unfold tuL; rw [if_neg (by rw [e1]; exact he)]
    rw [eL, e1]
    obtain ⟨k, hk⟩ : ∃ k, wk l s = k := ⟨_, rfl⟩
    obtain ⟨x, hx⟩ : ∃ x, wkE l s = x := ⟨_, rfl⟩
    rw [hk, hx] at HW
    rw [hx] at he ⊢
    have h2 : (x != 0) = true := by simpa using he
    clear hr hl he eL hk hx e1 HWr
    go_enter Try.func18, Try.ntmps18
    go_wp2_with fail
    refine HW.out.mono ?_
    rintro e w1 ⟨rfl, hb1⟩
    go_wp2
    go_ret2
    exact ⟨⟨none, 0, rfl, Nat.le_refl _, by omega, Rw.nil⟩, hb1⟩

end Go.Proofs.Ytbgimehbencdgaa
