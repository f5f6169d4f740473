/-
  The statement that what is written is read as it was, and that what is put is got, all else as it was.
-/
import Derived.Test.YtolahkfjlifnoaaInoGet
import Derived.Test.YtolahkfjlifnoaaInoOpen
namespace Go.Proofs.Ytolahkfjlifnoaa
open Go.RowKit Crcm Tagm Inom Go.ChangeShapes

theorem ineq (i j : Ind) (w : World) : (binOp .neq 24 (iv i) (iv j)).run Try.prog w = .ok (.bool (decide (i ≠ j))) w := by
  have h := ieq i j w
  unfold iv at h ⊢
  rw [run_eql_struct] at h
  rw [run_neq_struct]
  generalize (Op.equalIn 10000 24 (.agg _) (.agg _)).run Try.prog w = r at h
  cases r with
  | ok b w' =>
    simp only [Result.andThen_ok] at h ⊢
    injection h with h1 h2
    injection h1 with h1
    subst h1 h2
    by_cases e : i = j <;> simp [e]
  | halt x w' => simp [Result.andThen] at h

theorem gI_put {l : List Int} {k : Nat} {i : Ind} (h : Inn l.length k) (h2 : IR i) (hk : k * 24 + 24 ≤ l.length) :
    gI (splice l (k * 24) (wb i)) k = i ∧ gE (splice l (k * 24) (wb i)) k = 0 := by
  have hl : (splice l (k * 24) (wb i)).length = l.length := length_splice _ _ _ (by rw [wb_len]; omega)
  have hs := splice_same (L := l) (cs := wb i) (o := k * 24) (by rw [wb_len]; omega)
  rw [wb_len] at hs
  unfold gI gE
  rw [hl, if_pos h, if_pos h, Int.toNat_natCast, hs]
  unfold rdI rdE
  obtain ⟨e1, e2⟩ := rd_wb h2
  rw [e1, if_pos ⟨e2, h2⟩, if_pos ⟨e2, h2⟩]
  exact ⟨rfl, rfl⟩
theorem gI_other {l : List Int} {k : Nat} {i : Ind} {O : Int} (hk : k * 24 + 24 ≤ l.length) (hO : O ≠ k) :
    gI (splice l (k * 24) (wb i)) O = gI l O ∧ gE (splice l (k * 24) (wb i)) O = gE l O := by
  have hl : (splice l (k * 24) (wb i)).length = l.length := length_splice _ _ _ (by rw [wb_len]; omega)
  unfold gI gE
  rw [hl]
  by_cases h : Inn l.length O
  · rw [if_pos h, if_pos h, if_pos h, if_pos h]
    obtain ⟨o, rfl, ho, _⟩ := h.sz
    rw [Int.toNat_natCast, splice_other (by rw [wb_len]; omega) (by rw [wb_len]; omega)]
    exact ⟨rfl, rfl⟩
  · rw [if_neg h, if_neg h, if_neg h, if_neg h]
    exact ⟨rfl, rfl⟩

/-- a block that holds an inode -/
def IBk (w : World) (g : Nat) (i : Ind) : Prop := Blk w g 24 #[.int .i64 i.k, .int .i64 i.l, .int .i64 i.s, .int .i64 i.d0, .int .i64 i.d1, .int .i64 i.d2, .int .i64 i.d3, .int .i64 i.d4, .int .i64 i.d5, .int .i64 i.sg, .int .i64 i.db]

set_option maxRecDepth 100000 in
set_option maxHeartbeats 1000000 in
theorem inodeBack_long (i : Ind) (a : Option Addr) (n cap : Nat) (K O : Int) (w : World) (h : 1500 < n) :
    Calls Try.prog 7 #[iv i, .slice a n cap, .int .i64 K, .int .i64 O] w fun e w' => e = .returned (.bool true) ∧ Below w.heap.size w w' := by
  have HL := Lib.hid (fun w => ilong_yes a n cap w h)
  clear h
  unfold iv
  go_enter Try.func7, Try.ntmps7
  go_wp2_with fail
  refine (HL.out _).mono ?_
  rintro e w' ⟨rfl, rfl⟩
  go_wp2_with fail
  refine (iknown_any _).mono ?_
  rintro e w' ⟨rfl, hb⟩
  go_wp2
  go_ret
  exact ⟨rfl, ((Below.refl _ _).alloc (Nat.le_refl _) _).trans (hb.mono (by simp))⟩

set_option maxRecDepth 100000 in
set_option maxHeartbeats 2000000 in
/-- an inode that is refused -/
theorem inodeBack_no (i : Ind) (a : Option Addr) (n cap : Nat) (K O : Int) (w : World) (h : n ≤ 1500) (hi : ¬ IR i) :
    Calls Try.prog 7 #[iv i, .slice a n cap, .int .i64 K, .int .i64 O] w fun e w' => e = .returned (.bool true) ∧ Below w.heap.size w w' := by
  have HL := Lib.hid (fun w => ilong_no a n cap w h)
  have HW := Lib.hid (fun w => iwrite_no i w hi)
  have HP : Hid (∀ w, Calls Try.prog 29 #[.slice a n cap, .int .i64 K, iv i] w fun e w' => (∃ f, e = .returned (.tuple #[.slice none 0 0, .int .i64 f]) ∧ f ≠ 0) ∧ Below w.heap.size w w') := Lib.hid fun w => by
    by_cases hK : Inn n K
    · exact (iputs_no a n cap K i w hK hi).mono fun e w' ⟨he, hb⟩ => ⟨⟨51, he, by decide⟩, hb⟩
    · exact (iputs_out a n cap K i w hK).mono fun e w' ⟨he, hb⟩ => ⟨⟨1, he, by decide⟩, hb⟩
  clear h hi
  obtain ⟨k, l, s, d0, d1, d2, d3, d4, d5, sg, db⟩ := i
  have A0 : Hid (IBk (w.alloc (.cells #[.int .i64 k, .int .i64 l, .int .i64 s, .int .i64 d0, .int .i64 d1, .int .i64 d2, .int .i64 d3, .int .i64 d4, .int .i64 d5, .int .i64 sg, .int .i64 db] 24)) w.heap.size ⟨k, l, s, d0, d1, d2, d3, d4, d5, sg, db⟩) := Lib.hid (Blk.new w _ _)
  have B0 : Hid (Below w.heap.size w (w.alloc (.cells #[.int .i64 k, .int .i64 l, .int .i64 s, .int .i64 d0, .int .i64 d1, .int .i64 d2, .int .i64 d3, .int .i64 d4, .int .i64 d5, .int .i64 sg, .int .i64 db] 24))) := Lib.hid ((Below.refl _ _).alloc (Nat.le_refl _) _)
  unfold iv at *
  go_enter Try.func7, Try.ntmps7
  go_wp2_with fail
  refine (HL.out _).mono ?_
  rintro e w' ⟨rfl, rfl⟩
  go_wp2_with fail
  refine (HW.out _).mono ?_
  rintro e w1 ⟨rfl, hb1⟩
  have A1 := Lib.hid (Blk.below A0.out hb1 (Blk.lt A0.out))
  have B1 := Lib.hid (B0.out.trans (hb1.mono B0.out.size))
  clear hb1 A0 B0 HL
  go_wp2_with fail
  refine (iread_len none 0 0 _ (by decide)).mono ?_
  unfold iv zi
  rintro e w2 ⟨rfl, hb2⟩
  have A2 := Lib.hid (Blk.alloc (Blk.below A1.out hb2 (Blk.lt A1.out)) (.cells #[.int .i64 0, .int .i64 0, .int .i64 0, .int .i64 0, .int .i64 0, .int .i64 0, .int .i64 0, .int .i64 0, .int .i64 0, .int .i64 0, .int .i64 0] 24))
  have hb02 := B1.out.trans (hb2.mono B1.out.size)
  have B2 : Hid (Below w.heap.size w (w2.alloc (.cells #[.int .i64 0, .int .i64 0, .int .i64 0, .int .i64 0, .int .i64 0, .int .i64 0, .int .i64 0, .int .i64 0, .int .i64 0, .int .i64 0, .int .i64 0] 24))) := Lib.hid (hb02.alloc hb02.size _)
  obtain ⟨c0, c1, c2, c3, c4, c5, c6, c7, c8, c9, c10⟩ := A2.out.eleven
  clear hb2 hb02 A1 B1
  go_wp2_with fail
  refine (HP.out _).mono ?_
  rintro e w3 ⟨⟨f, rfl, hf⟩, hb3⟩
  have B3 := Lib.hid (B2.out.trans (hb3.mono B2.out.size))
  have hf1 : (f == 0) = false := by simpa using hf
  have hf2 : (f != 0) = true := by simpa using hf
  clear hb3 B2 hf c0 c1 c2 c3 c4 c5 c6 c7 c8 c9 c10
  go_wp2_with fail
  refine (iknown_any _).mono ?_
  rintro e w' ⟨rfl, hb⟩
  go_wp2
  go_ret
  exact ⟨rfl, B3.out.trans (hb.mono B3.out.size)⟩

set_option maxRecDepth 100000 in
set_option maxHeartbeats 4000000 in
/-- an inode that is written -/
theorem inodeBack_yes (i : Ind) (a : Option Addr) (cap : Nat) (l : List Int) (K O : Int) (w : World) (h : l.length ≤ 1500) (hi : IR i) (hr : Rw w a l) (hcap : l.length ≤ cap) :
    Calls Try.prog 7 #[iv i, .slice a l.length cap, .int .i64 K, .int .i64 O] w fun e w' => e = .returned (.bool true) ∧ Below w.heap.size w w' := by
  have HL := Lib.hid (fun w => ilong_no a l.length cap w h)
  have HW := Lib.hid (fun w => iwrite_yes i w hi)
  have HV : Hid (rdV (wb i) = .tuple #[iv i, .int .i64 0]) := Lib.hid (by have := rdV_yes (rd_wb hi).2 (by rw [(rd_wb hi).1]; exact hi); rwa [(rd_wb hi).1] at this)
  have HI := Lib.hid hi
  have HR := Lib.hid hr
  have HC := Lib.hid hcap
  have HN := fun w => ineq i i w
  have HE := fun w => ieq i i w
  rw [decide_eq_true rfl] at HE
  rw [decide_eq_false (fun h => h rfl)] at HN
  have HE2 := fun j w => ieq j j w
  simp only [decide_true] at HE2
  clear h hi hr hcap
  have A0 : Hid (IBk (w.alloc (.cells #[.int .i64 i.k, .int .i64 i.l, .int .i64 i.s, .int .i64 i.d0, .int .i64 i.d1, .int .i64 i.d2, .int .i64 i.d3, .int .i64 i.d4, .int .i64 i.d5, .int .i64 i.sg, .int .i64 i.db] 24)) w.heap.size i) := Lib.hid (Blk.new w _ _)
  have B0 : Hid (Below w.heap.size w (w.alloc (.cells #[.int .i64 i.k, .int .i64 i.l, .int .i64 i.s, .int .i64 i.d0, .int .i64 i.d1, .int .i64 i.d2, .int .i64 i.d3, .int .i64 i.d4, .int .i64 i.d5, .int .i64 i.sg, .int .i64 i.db] 24))) := Lib.hid ((Below.refl _ _).alloc (Nat.le_refl _) _)
  unfold iv at HN HE HW ⊢
  go_enter Try.func7, Try.ntmps7
  go_wp2_with fail
  refine (HL.out _).mono ?_
  rintro e w' ⟨rfl, rfl⟩
  go_wp2_with fail
  refine (HW.out _).mono ?_
  rintro e w1 ⟨v, rfl, hown, hb1⟩
  have A1 := Lib.hid (Blk.below A0.out hb1 (Blk.lt A0.out))
  have B1 := Lib.hid (B0.out.trans (hb1.mono B0.out.size))
  obtain ⟨a2, cap2, rfl, hrw2, hlen2, hcap2⟩ := Rw.of_own hown (wb_U8 i)
  obtain ⟨b2, o2, rfl⟩ := hrw2.addr (by rw [hlen2]; omega)
  have hx := iread_24 b2 o2 cap2 _ _ hrw2 hlen2 hcap2
  rw [HV.out] at hx
  unfold iv at hx
  have HX := Lib.hid hx
  clear hb1 A0 B0 HL hx hrw2 hlen2 hcap2 hown HW HV
  go_wp2_with fail
  refine HX.out.mono ?_
  rintro e w2 ⟨rfl, hb2⟩
  have A2 := Lib.hid (Blk.alloc (Blk.below A1.out hb2 (Blk.lt A1.out)) (.cells #[.int .i64 i.k, .int .i64 i.l, .int .i64 i.s, .int .i64 i.d0, .int .i64 i.d1, .int .i64 i.d2, .int .i64 i.d3, .int .i64 i.d4, .int .i64 i.d5, .int .i64 i.sg, .int .i64 i.db] 24))
  have hb02 := B1.out.trans (hb2.mono B1.out.size)
  have B2 : Hid (Below w.heap.size w (w2.alloc (.cells #[.int .i64 i.k, .int .i64 i.l, .int .i64 i.s, .int .i64 i.d0, .int .i64 i.d1, .int .i64 i.d2, .int .i64 i.d3, .int .i64 i.d4, .int .i64 i.d5, .int .i64 i.sg, .int .i64 i.db] 24))) := Lib.hid (hb02.alloc hb02.size _)
  obtain ⟨c0, c1, c2, c3, c4, c5, c6, c7, c8, c9, c10⟩ := A2.out.eleven
  obtain ⟨e0, e1, e2, e3, e4, e5, e6, e7, e8, e9, e10⟩ := (Blk.new w2 24 #[.int .i64 i.k, .int .i64 i.l, .int .i64 i.s, .int .i64 i.d0, .int .i64 i.d1, .int .i64 i.d2, .int .i64 i.d3, .int .i64 i.d4, .int .i64 i.d5, .int .i64 i.sg, .int .i64 i.db]).eleven
  clear hb2 hb02 A1 B1
  by_cases hK : Inn l.length K
  · obtain ⟨k, rfl, hk, hk2⟩ := hK.sz
    have HP := Lib.hid (iputs_yes a cap k i l _ (HR.out.below B2.out) hK HI.out hk hk2)
    have HG := Lib.hid (gI_put hK HI.out hk)
    have HK := Lib.hid hk
    clear hK hk hk2
    unfold iv at HP
    go_wp2_with fail
    refine HP.out.mono ?_
    rintro e w3 ⟨⟨g, cc, rfl, hcc, hrp⟩, hb3⟩
    have A3 := Lib.hid (Blk.below A2.out hb3 (Blk.lt A2.out))
    have B3 := Lib.hid (B2.out.trans (hb3.mono B2.out.size))
    have HRP := Lib.hid hrp
    have HLS : Hid ((splice l (k * 24) (wb i)).length = l.length) := Lib.hid (length_splice _ _ _ (by have := HK.out; rw [wb_len]; omega))
    have hg1 := iget_any (some ⟨g, 0, none⟩) l.length cc k _ _ hrp HLS.out hcc
    rw [HG.out.1, HG.out.2] at hg1
    unfold iv at hg1
    have HG1 := Lib.hid hg1
    have HCC := Lib.hid hcc
    clear hb3 A2 B2 c0 c1 c2 c3 c4 c5 c6 c7 c8 c9 c10 e0 e1 e2 e3 e4 e5 e6 e7 e8 e9 e10 hrp hg1 hcc HX HP
    go_wp2_with fail
    refine HG1.out.mono ?_
    rintro e w4 ⟨rfl, hb4⟩
    have hb04 := B3.out.trans (hb4.mono B3.out.size)
    have A4 := Lib.hid (Blk.alloc (Blk.below A3.out hb4 (Blk.lt A3.out)) (.cells #[.int .i64 i.k, .int .i64 i.l, .int .i64 i.s, .int .i64 i.d0, .int .i64 i.d1, .int .i64 i.d2, .int .i64 i.d3, .int .i64 i.d4, .int .i64 i.d5, .int .i64 i.sg, .int .i64 i.db] 24))
    have J4 : Hid (IBk (w4.alloc (.cells #[.int .i64 i.k, .int .i64 i.l, .int .i64 i.s, .int .i64 i.d0, .int .i64 i.d1, .int .i64 i.d2, .int .i64 i.d3, .int .i64 i.d4, .int .i64 i.d5, .int .i64 i.sg, .int .i64 i.db] 24)) w4.heap.size i) := Lib.hid (Blk.new w4 _ _)
    have B4 : Hid (Below w.heap.size w (w4.alloc (.cells #[.int .i64 i.k, .int .i64 i.l, .int .i64 i.s, .int .i64 i.d0, .int .i64 i.d1, .int .i64 i.d2, .int .i64 i.d3, .int .i64 i.d4, .int .i64 i.d5, .int .i64 i.sg, .int .i64 i.db] 24))) := Lib.hid (hb04.alloc hb04.size _)
    have B34 : Hid (Below w3.heap.size w3 (w4.alloc (.cells #[.int .i64 i.k, .int .i64 i.l, .int .i64 i.s, .int .i64 i.d0, .int .i64 i.d1, .int .i64 i.d2, .int .i64 i.d3, .int .i64 i.d4, .int .i64 i.d5, .int .i64 i.sg, .int .i64 i.db] 24))) := Lib.hid (hb4.alloc hb4.size _)
    have hg2 := iget_any a l.length cap O l _ (HR.out.below B4.out) rfl HC.out
    have hg2b := fun w hq => iget_any (some ⟨g, 0, none⟩) l.length cc O (splice l (k * 24) (wb i)) w hq HLS.out HCC.out
    have hoth : O ≠ k → gI (splice l (k * 24) (wb i)) O = gI l O ∧ gE (splice l (k * 24) (wb i)) O = gE l O := gI_other HK.out
    clear hb4 hb04 A3 HG1
    by_cases hO : O = k
    · subst hO
      generalize gI l k = u at hg2
      generalize gE l k = f at hg2
      rw [HG.out.1, HG.out.2] at hg2b
      obtain ⟨u0, u1, u2, u3, u4, u5, u6, u7, u8, u9, u10⟩ := u
      unfold iv at hg2 hg2b
      have HG2 := Lib.hid hg2
      have HG2b := Lib.hid hg2b
      clear hg2 hg2b hoth
      go_wp2_with fail
      refine HG2.out.mono ?_
      rintro e w5 ⟨rfl, hb5⟩
      have hb05 := B4.out.trans (hb5.mono B4.out.size)
      have A5 := Lib.hid (Blk.alloc (Blk.below A4.out hb5 (Blk.lt A4.out)) (.cells #[.int .i64 u0, .int .i64 u1, .int .i64 u2, .int .i64 u3, .int .i64 u4, .int .i64 u5, .int .i64 u6, .int .i64 u7, .int .i64 u8, .int .i64 u9, .int .i64 u10] 24))
      have J5 := Lib.hid (Blk.alloc (Blk.below J4.out hb5 (Blk.lt J4.out)) (.cells #[.int .i64 u0, .int .i64 u1, .int .i64 u2, .int .i64 u3, .int .i64 u4, .int .i64 u5, .int .i64 u6, .int .i64 u7, .int .i64 u8, .int .i64 u9, .int .i64 u10] 24))
      have B5 : Hid (Below w.heap.size w (w5.alloc (.cells #[.int .i64 u0, .int .i64 u1, .int .i64 u2, .int .i64 u3, .int .i64 u4, .int .i64 u5, .int .i64 u6, .int .i64 u7, .int .i64 u8, .int .i64 u9, .int .i64 u10] 24))) := Lib.hid (hb05.alloc hb05.size _)
      have B35 : Hid (Below w3.heap.size w3 (w5.alloc (.cells #[.int .i64 u0, .int .i64 u1, .int .i64 u2, .int .i64 u3, .int .i64 u4, .int .i64 u5, .int .i64 u6, .int .i64 u7, .int .i64 u8, .int .i64 u9, .int .i64 u10] 24))) := Lib.hid (by have h := B34.out.trans (hb5.mono B34.out.size); exact h.alloc h.size _)
      clear hb5 hb05 A4 J4 B4 B34 HG2
      go_wp2_with fail
      refine (HG2b.out _ (HRP.out.below B35.out)).mono ?_
      rintro e w6 ⟨rfl, hb6⟩
      have hb06 := B5.out.trans (hb6.mono B5.out.size)
      have A6 := Lib.hid (Blk.alloc (Blk.below A5.out hb6 (Blk.lt A5.out)) (.cells #[.int .i64 i.k, .int .i64 i.l, .int .i64 i.s, .int .i64 i.d0, .int .i64 i.d1, .int .i64 i.d2, .int .i64 i.d3, .int .i64 i.d4, .int .i64 i.d5, .int .i64 i.sg, .int .i64 i.db] 24))
      have J6 := Lib.hid (Blk.alloc (Blk.below J5.out hb6 (Blk.lt J5.out)) (.cells #[.int .i64 i.k, .int .i64 i.l, .int .i64 i.s, .int .i64 i.d0, .int .i64 i.d1, .int .i64 i.d2, .int .i64 i.d3, .int .i64 i.d4, .int .i64 i.d5, .int .i64 i.sg, .int .i64 i.db] 24))
      have B6 : Hid (Below w.heap.size w (w6.alloc (.cells #[.int .i64 i.k, .int .i64 i.l, .int .i64 i.s, .int .i64 i.d0, .int .i64 i.d1, .int .i64 i.d2, .int .i64 i.d3, .int .i64 i.d4, .int .i64 i.d5, .int .i64 i.sg, .int .i64 i.db] 24))) := Lib.hid (hb06.alloc hb06.size _)
      obtain ⟨c0, c1, c2, c3, c4, c5, c6, c7, c8, c9, c10⟩ := A6.out.eleven
      obtain ⟨e0, e1, e2, e3, e4, e5, e6, e7, e8, e9, e10⟩ := J6.out.eleven
      clear hb6 hb06 A5 J5 B5 B35
      go_wp2_with fail
      refine (iknown_any _).mono ?_
      rintro e w' ⟨rfl, hb⟩
      go_wp2
      go_ret
      exact ⟨rfl, B6.out.trans (hb.mono B6.out.size)⟩
    · have hO2 : ((O : Int) == k) = false := by simpa using hO
      rw [(hoth hO).1, (hoth hO).2] at hg2b
      generalize gI l O = u at hg2 hg2b
      generalize gE l O = f at hg2 hg2b
      have HE3 := HE2 u
      obtain ⟨u0, u1, u2, u3, u4, u5, u6, u7, u8, u9, u10⟩ := u
      unfold iv at hg2 hg2b HE3
      have HG2 := Lib.hid hg2
      have HG2b := Lib.hid hg2b
      clear hg2 hg2b hoth HE2 hO
      go_wp2_with fail
      refine HG2.out.mono ?_
      rintro e w5 ⟨rfl, hb5⟩
      have hb05 := B4.out.trans (hb5.mono B4.out.size)
      have A5 := Lib.hid (Blk.alloc (Blk.below A4.out hb5 (Blk.lt A4.out)) (.cells #[.int .i64 u0, .int .i64 u1, .int .i64 u2, .int .i64 u3, .int .i64 u4, .int .i64 u5, .int .i64 u6, .int .i64 u7, .int .i64 u8, .int .i64 u9, .int .i64 u10] 24))
      have J5 := Lib.hid (Blk.alloc (Blk.below J4.out hb5 (Blk.lt J4.out)) (.cells #[.int .i64 u0, .int .i64 u1, .int .i64 u2, .int .i64 u3, .int .i64 u4, .int .i64 u5, .int .i64 u6, .int .i64 u7, .int .i64 u8, .int .i64 u9, .int .i64 u10] 24))
      have M5 := Lib.hid (Blk.new w5 24 #[.int .i64 u0, .int .i64 u1, .int .i64 u2, .int .i64 u3, .int .i64 u4, .int .i64 u5, .int .i64 u6, .int .i64 u7, .int .i64 u8, .int .i64 u9, .int .i64 u10])
      have B5 : Hid (Below w.heap.size w (w5.alloc (.cells #[.int .i64 u0, .int .i64 u1, .int .i64 u2, .int .i64 u3, .int .i64 u4, .int .i64 u5, .int .i64 u6, .int .i64 u7, .int .i64 u8, .int .i64 u9, .int .i64 u10] 24))) := Lib.hid (hb05.alloc hb05.size _)
      have B35 : Hid (Below w3.heap.size w3 (w5.alloc (.cells #[.int .i64 u0, .int .i64 u1, .int .i64 u2, .int .i64 u3, .int .i64 u4, .int .i64 u5, .int .i64 u6, .int .i64 u7, .int .i64 u8, .int .i64 u9, .int .i64 u10] 24))) := Lib.hid (by have h := B34.out.trans (hb5.mono B34.out.size); exact h.alloc h.size _)
      clear hb5 hb05 A4 J4 B4 B34 HG2
      go_wp2_with fail
      refine (HG2b.out _ (HRP.out.below B35.out)).mono ?_
      rintro e w6 ⟨rfl, hb6⟩
      have hb06 := B5.out.trans (hb6.mono B5.out.size)
      have A6 := Lib.hid (Blk.alloc (Blk.below A5.out hb6 (Blk.lt A5.out)) (.cells #[.int .i64 u0, .int .i64 u1, .int .i64 u2, .int .i64 u3, .int .i64 u4, .int .i64 u5, .int .i64 u6, .int .i64 u7, .int .i64 u8, .int .i64 u9, .int .i64 u10] 24))
      have J6 := Lib.hid (Blk.alloc (Blk.below J5.out hb6 (Blk.lt J5.out)) (.cells #[.int .i64 u0, .int .i64 u1, .int .i64 u2, .int .i64 u3, .int .i64 u4, .int .i64 u5, .int .i64 u6, .int .i64 u7, .int .i64 u8, .int .i64 u9, .int .i64 u10] 24))
      have M6 := Lib.hid (Blk.alloc (Blk.below M5.out hb6 (Blk.lt M5.out)) (.cells #[.int .i64 u0, .int .i64 u1, .int .i64 u2, .int .i64 u3, .int .i64 u4, .int .i64 u5, .int .i64 u6, .int .i64 u7, .int .i64 u8, .int .i64 u9, .int .i64 u10] 24))
      have N6 := Lib.hid (Blk.new w6 24 #[.int .i64 u0, .int .i64 u1, .int .i64 u2, .int .i64 u3, .int .i64 u4, .int .i64 u5, .int .i64 u6, .int .i64 u7, .int .i64 u8, .int .i64 u9, .int .i64 u10])
      have B6 : Hid (Below w.heap.size w (w6.alloc (.cells #[.int .i64 u0, .int .i64 u1, .int .i64 u2, .int .i64 u3, .int .i64 u4, .int .i64 u5, .int .i64 u6, .int .i64 u7, .int .i64 u8, .int .i64 u9, .int .i64 u10] 24))) := Lib.hid (hb06.alloc hb06.size _)
      obtain ⟨c0, c1, c2, c3, c4, c5, c6, c7, c8, c9, c10⟩ := A6.out.eleven
      obtain ⟨e0, e1, e2, e3, e4, e5, e6, e7, e8, e9, e10⟩ := J6.out.eleven
      obtain ⟨m0, m1, m2, m3, m4, m5, m6, m7, m8, m9, m10⟩ := M6.out.eleven
      obtain ⟨n0, n1, n2, n3, n4, n5, n6, n7, n8, n9, n10⟩ := N6.out.eleven
      clear hb6 hb06 A5 J5 B5 B35
      go_wp2_with fail
      refine (iknown_any _).mono ?_
      rintro e w' ⟨rfl, hb⟩
      go_wp2
      go_ret
      exact ⟨rfl, B6.out.trans (hb.mono B6.out.size)⟩
  · have HP := Lib.hid (fun w => iputs_out a l.length cap K i w hK)
    clear hK
    unfold iv at HP
    go_wp2_with fail
    refine (HP.out _).mono ?_
    rintro e w3 ⟨rfl, hb3⟩
    have B3 := Lib.hid (B2.out.trans (hb3.mono B2.out.size))
    clear hb3 B2 c0 c1 c2 c3 c4 c5 c6 c7 c8 c9 c10 e0 e1 e2 e3 e4 e5 e6 e7 e8 e9 e10
    go_wp2_with fail
    refine (iknown_any _).mono ?_
    rintro e w' ⟨rfl, hb⟩
    go_wp2
    go_ret
    exact ⟨rfl, B3.out.trans (hb.mono B3.out.size)⟩

theorem inodeBack_walk (k l s d0 d1 d2 d3 d4 d5 sg db : Int) (a : Option Addr) (len cap : Nat) (z : List Int) (K O : Int) (w : World) (_w0 : (Lit.int .i64 k).wf = true) (_w1 : (Lit.int .i64 l).wf = true) (_w2 : (Lit.int .i64 s).wf = true) (_w3 : (Lit.int .i64 d0).wf = true) (_w4 : (Lit.int .i64 d1).wf = true) (_w5 : (Lit.int .i64 d2).wf = true) (_w6 : (Lit.int .i64 d3).wf = true) (_w7 : (Lit.int .i64 d4).wf = true) (_w8 : (Lit.int .i64 d5).wf = true) (_w9 : (Lit.int .i64 sg).wf = true) (_w10 : (Lit.int .i64 db).wf = true)
    (hz : Row8 w a len cap z) (_x1 : (Lit.int .i64 K).wf = true) (_x2 : (Lit.int .i64 O).wf = true) :
    Calls Try.prog 7 #[.agg #[.int .i64 k, .int .i64 l, .int .i64 s, .int .i64 d0, .int .i64 d1, .int .i64 d2, .int .i64 d3, .int .i64 d4, .int .i64 d5, .int .i64 sg, .int .i64 db], .slice a len cap, .int .i64 K, .int .i64 O] w fun e w' => e = .returned (.bool true) ∧ Below w.heap.size w w' := by
  obtain ⟨n, rfl, hc, hr, -⟩ := hz.rw
  show Calls Try.prog 7 #[iv ⟨k, l, s, d0, d1, d2, d3, d4, d5, sg, db⟩, .slice a n.length cap, .int .i64 K, .int .i64 O] w _
  by_cases h : 1500 < n.length
  · exact inodeBack_long _ a n.length cap K O w h
  · by_cases hi : IR ⟨k, l, s, d0, d1, d2, d3, d4, d5, sg, db⟩
    · exact inodeBack_yes _ a cap n K O w (by omega) hi hr hc
    · exact inodeBack_no _ a n.length cap K O w (by omega) hi

end Go.Proofs.Ytolahkfjlifnoaa
