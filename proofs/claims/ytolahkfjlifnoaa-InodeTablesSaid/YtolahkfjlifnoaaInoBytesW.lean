/-
  The statement that any inode has its bytes, or is refused, and that any bytes are an inode's, or none's.
-/
import Derived.Test.YtolahkfjlifnoaaInoRefW
import Derived.Test.YtolahkfjlifnoaaInoRefD
import Derived.Test.YtolahkfjlifnoaaInoOpen
import Derived.Test.YtolahkfjlifnoaaLater
namespace Go.Proofs.Ytolahkfjlifnoaa
open Go.RowKit Crcm Tagm Inom Go.ChangeShapes

/-- the bytes of an inode, or none; the error beside them -/
def bW (i : Ind) : List Int := if IR i then wb i else []
def eW (i : Ind) : Int := if IR i then 0 else 51
theorem bW_U8 (i : Ind) : ∀ b ∈ bW i, U8 b := by
  unfold bW
  by_cases h : IR i
  · rw [if_pos h]; exact wb_U8 i
  · rw [if_neg h]; simp
theorem iwrite_all (i : Ind) (w : World) : Calls Try.prog 18 #[iv i] w fun e w' => (∃ A c, e = .returned (.tuple #[.slice A (bW i).length c, .int .i64 (eW i)]) ∧ (bW i).length ≤ c ∧ Rw w' A (bW i)) ∧ Below w.heap.size w w' := by
  unfold bW eW
  by_cases h : IR i
  · rw [if_pos h, if_pos h]
    refine (iwrite_yes i w h).mono ?_
    rintro e w' ⟨v, rfl, hown, hb⟩
    obtain ⟨a2, cap2, rfl, hrw2, hlen2, hcap2⟩ := Rw.of_own hown (wb_U8 i)
    exact ⟨⟨a2, cap2, by rw [hlen2], by rw [hlen2]; exact hcap2, hrw2⟩, hb⟩
  · rw [if_neg h, if_neg h]
    refine (iwrite_no i w h).mono ?_
    rintro e w' ⟨rfl, hb⟩
    exact ⟨⟨none, 0, rfl, Nat.le_refl _, Rw.nil⟩, hb⟩
theorem irefwrite_all (i : Ind) (w : World) : Calls Try.prog 19 #[iv i] w fun e w' => (∃ A c, e = .returned (.tuple #[.slice A (bW i).length c, .int .i64 (eW i)]) ∧ (bW i).length ≤ c ∧ Rw w' A (bW i)) ∧ Below w.heap.size w w' := by
  unfold bW eW
  by_cases h : IR i
  · rw [if_pos h, if_pos h]
    refine (irefwrite_yes i w h).mono ?_
    rintro e w' ⟨v, rfl, hown, hb⟩
    obtain ⟨a2, cap2, rfl, hrw2, hlen2, hcap2⟩ := Rw.of_own hown (wb_U8 i)
    exact ⟨⟨a2, cap2, by rw [hlen2], by rw [hlen2]; exact hcap2, hrw2⟩, hb⟩
  · rw [if_neg h, if_neg h]
    refine (irefwrite_no i w h).mono ?_
    rintro e w' ⟨rfl, hb⟩
    exact ⟨⟨none, 0, rfl, Nat.le_refl _, Rw.nil⟩, hb⟩

/-- the inode of any bytes, or none; the error beside it -/
def rI (l : List Int) : Ind := if l.length = 24 then rdI l else zi
def rE (l : List Int) : Int := if l.length = 24 then rdE l else 1
theorem iread_all (a : Option Addr) (n cap : Nat) (l : List Int) (w : World) (hr : Rw w a l) (hn : l.length = n) (hc : n ≤ cap) :
    Calls Try.prog 20 #[.slice a n cap] w fun e w' => e = .returned (.tuple #[iv (rI l), .int .i64 (rE l)]) ∧ Below w.heap.size w w' := by
  unfold rI rE
  by_cases h : n = 24
  · subst h
    rw [if_pos hn, if_pos hn]
    obtain ⟨b, off, rfl⟩ := hr.addr (by omega)
    have := iread_24 b off cap l w hr hn hc
    rwa [rdV_eq] at this
  · rw [if_neg (by omega), if_neg (by omega)]
    exact iread_len a n cap w h
theorem irefread_all (a : Option Addr) (n cap : Nat) (l : List Int) (w : World) (hr : Rw w a l) (hn : l.length = n) (hc : n ≤ cap) :
    Calls Try.prog 21 #[.slice a n cap] w fun e w' => e = .returned (.tuple #[iv (rI l), .int .i64 (rE l)]) ∧ Below w.heap.size w w' := by
  unfold rI rE
  by_cases h : n = 24
  · subst h
    rw [if_pos hn, if_pos hn]
    obtain ⟨b, off, rfl⟩ := hr.addr (by omega)
    have := irefread_24 b off cap l w hr hn hc
    rwa [rdV_eq] at this
  · rw [if_neg (by omega), if_neg (by omega)]
    exact irefread_len a n cap w h

set_option maxRecDepth 100000 in
set_option maxHeartbeats 1000000 in
theorem inodeBytes_long (i : Ind) (a : Option Addr) (n cap : Nat) (S : Int) (w : World) (h : 1500 < n) :
    Calls Try.prog 3 #[iv i, .slice a n cap, .int .i64 S] w fun e w' => e = .returned (.bool true) ∧ Below w.heap.size w w' := by
  have HL := Lib.hid (fun w => ilong_yes a n cap w h)
  clear h
  unfold iv
  go_enter Try.func3, Try.ntmps3
  go_wp2_with fail
  refine (HL.out _).mono ?_
  rintro e w' ⟨rfl, rfl⟩
  go_wp2_with fail
  refine (iknown_any _).mono ?_
  rintro e w' ⟨rfl, hb⟩
  go_wp2
  go_ret
  exact ⟨rfl, ((Below.refl _ _).alloc (Nat.le_refl _) _).trans (hb.mono (by simp))⟩

set_option maxRecDepth 100000 in
set_option maxHeartbeats 8000000 in
theorem inodeBytes_short (i : Ind) (a : Option Addr) (cap : Nat) (l : List Int) (S : Int) (w : World) (h : l.length ≤ 1500) (hr : Rw w a l) (hc : l.length ≤ cap) :
    Calls Try.prog 3 #[iv i, .slice a l.length cap, .int .i64 S] w fun e w' => e = .returned (.bool true) ∧ Below w.heap.size w w' := by
  have HL := Lib.hid (fun w => ilong_no a l.length cap w h)
  have HW := Lib.hid (fun w => iwrite_all i w)
  have HW2 := Lib.hid (fun w => irefwrite_all i w)
  have HR1 := Lib.hid (fun w hq => iread_all a l.length cap l w hq rfl hc)
  have HR2 := Lib.hid (fun w hq => irefread_all a l.length cap l w hq rfl hc)
  have HX1 := fun w => iright_any i w
  have HX2 := fun w => irefright_any i w
  have HP1 := fun w => per_any S w
  have HP2 := fun w => refper_any S w
  have HE := fun w => ieq (rI l) (rI l) w
  rw [decide_eq_true rfl] at HE
  have HR := Lib.hid hr
  clear h hc hr
  generalize decide (IR i) = B at HX1 HX2
  generalize per S = pp at HP1 HP2
  obtain ⟨bb, hbb⟩ : ∃ bb, bW i = bb := ⟨_, rfl⟩
  rw [hbb] at HW HW2
  generalize eW i = ew at HW HW2
  generalize rI l = r at HR1 HR2 HE
  generalize rE l = f at HR1 HR2
  have A0 : Hid (Blk (w.alloc (.cells #[.int .i64 i.k, .int .i64 i.l, .int .i64 i.s, .int .i64 i.d0, .int .i64 i.d1, .int .i64 i.d2, .int .i64 i.d3, .int .i64 i.d4, .int .i64 i.d5, .int .i64 i.sg, .int .i64 i.db] 24)) w.heap.size 24 #[.int .i64 i.k, .int .i64 i.l, .int .i64 i.s, .int .i64 i.d0, .int .i64 i.d1, .int .i64 i.d2, .int .i64 i.d3, .int .i64 i.d4, .int .i64 i.d5, .int .i64 i.sg, .int .i64 i.db]) := Lib.hid (Blk.new w _ _)
  have B0 : Hid (Below w.heap.size w (w.alloc (.cells #[.int .i64 i.k, .int .i64 i.l, .int .i64 i.s, .int .i64 i.d0, .int .i64 i.d1, .int .i64 i.d2, .int .i64 i.d3, .int .i64 i.d4, .int .i64 i.d5, .int .i64 i.sg, .int .i64 i.db] 24))) := Lib.hid ((Below.refl _ _).alloc (Nat.le_refl _) _)
  unfold iv at HW HW2 HR1 HR2 HX1 HX2 HE ⊢
  clear hbb
  have HX1' := Lib.hid HX1
  have HX2' := Lib.hid HX2
  have HP1' := Lib.hid HP1
  have HP2' := Lib.hid HP2
  clear HX1 HX2 HP1 HP2
  go_enter Try.func3, Try.ntmps3
  go_wp2_with fail
  refine (HL.out _).mono ?_
  rintro e w' ⟨rfl, rfl⟩
  go_wp2_with fail
  refine (HW.out _).mono ?_
  rintro e w1 ⟨⟨X, cx, rfl, hcx, hX⟩, hb1⟩
  have A1 := Lib.hid (A0.out.below hb1 A0.out.lt)
  have B1 := Lib.hid (B0.out.trans (hb1.mono B0.out.size))
  have HX := Lib.hid hX
  obtain ⟨c0, c1, c2, c3, c4, c5, c6, c7, c8, c9, c10⟩ := A1.out.eleven
  clear hb1 A0 B0 HL hX hcx HW
  go_wp2_with fail
  refine (HW2.out _).mono ?_
  rintro e w2 ⟨⟨Y, cy, rfl, hcy, hY⟩, hb2⟩
  have A2 := Lib.hid (A1.out.below hb2 A1.out.lt)
  have B2 := Lib.hid (B1.out.trans (hb2.mono B1.out.size))
  have X2 := Lib.hid (HX.out.below hb2)
  have Y2 := Lib.hid hY
  clear hb2 A1 B1 HX hY hcy HW2 c0 c1 c2 c3 c4 c5 c6 c7 c8 c9 c10
  go_wp2_with fail
  refine (HR1.out _ (HR.out.below B2.out)).mono ?_
  rintro e w3 ⟨rfl, hb3⟩
  have A3 := Lib.hid ((A2.out.below hb3 A2.out.lt).alloc (.cells #[.int .i64 r.k, .int .i64 r.l, .int .i64 r.s, .int .i64 r.d0, .int .i64 r.d1, .int .i64 r.d2, .int .i64 r.d3, .int .i64 r.d4, .int .i64 r.d5, .int .i64 r.sg, .int .i64 r.db] 24))
  have hb03 := B2.out.trans (hb3.mono B2.out.size)
  have B3 : Hid (Below w.heap.size w (w3.alloc (.cells #[.int .i64 r.k, .int .i64 r.l, .int .i64 r.s, .int .i64 r.d0, .int .i64 r.d1, .int .i64 r.d2, .int .i64 r.d3, .int .i64 r.d4, .int .i64 r.d5, .int .i64 r.sg, .int .i64 r.db] 24))) := Lib.hid (hb03.alloc hb03.size _)
  have b23 : Below w2.heap.size w2 (w3.alloc (.cells #[.int .i64 r.k, .int .i64 r.l, .int .i64 r.s, .int .i64 r.d0, .int .i64 r.d1, .int .i64 r.d2, .int .i64 r.d3, .int .i64 r.d4, .int .i64 r.d5, .int .i64 r.sg, .int .i64 r.db] 24)) := hb3.alloc hb3.size _
  have X3 := Lib.hid (X2.out.below b23)
  have Y3 := Lib.hid (Y2.out.below b23)
  have R3 := Lib.hid (Blk.new w3 24 #[.int .i64 r.k, .int .i64 r.l, .int .i64 r.s, .int .i64 r.d0, .int .i64 r.d1, .int .i64 r.d2, .int .i64 r.d3, .int .i64 r.d4, .int .i64 r.d5, .int .i64 r.sg, .int .i64 r.db])
  clear hb3 hb03 b23 A2 B2 X2 Y2 HR1
  go_wp2_with fail
  refine (HR2.out _ (HR.out.below B3.out)).mono ?_
  rintro e w4 ⟨rfl, hb4⟩
  have A4 := Lib.hid ((A3.out.below hb4 A3.out.lt).alloc (.cells #[.int .i64 r.k, .int .i64 r.l, .int .i64 r.s, .int .i64 r.d0, .int .i64 r.d1, .int .i64 r.d2, .int .i64 r.d3, .int .i64 r.d4, .int .i64 r.d5, .int .i64 r.sg, .int .i64 r.db] 24))
  have hb04 := B3.out.trans (hb4.mono B3.out.size)
  have B4 : Hid (Below w.heap.size w (w4.alloc (.cells #[.int .i64 r.k, .int .i64 r.l, .int .i64 r.s, .int .i64 r.d0, .int .i64 r.d1, .int .i64 r.d2, .int .i64 r.d3, .int .i64 r.d4, .int .i64 r.d5, .int .i64 r.sg, .int .i64 r.db] 24))) := Lib.hid (hb04.alloc hb04.size _)
  have b34 : Below (w3.alloc (.cells #[.int .i64 r.k, .int .i64 r.l, .int .i64 r.s, .int .i64 r.d0, .int .i64 r.d1, .int .i64 r.d2, .int .i64 r.d3, .int .i64 r.d4, .int .i64 r.d5, .int .i64 r.sg, .int .i64 r.db] 24)).heap.size (w3.alloc (.cells #[.int .i64 r.k, .int .i64 r.l, .int .i64 r.s, .int .i64 r.d0, .int .i64 r.d1, .int .i64 r.d2, .int .i64 r.d3, .int .i64 r.d4, .int .i64 r.d5, .int .i64 r.sg, .int .i64 r.db] 24)) (w4.alloc (.cells #[.int .i64 r.k, .int .i64 r.l, .int .i64 r.s, .int .i64 r.d0, .int .i64 r.d1, .int .i64 r.d2, .int .i64 r.d3, .int .i64 r.d4, .int .i64 r.d5, .int .i64 r.sg, .int .i64 r.db] 24)) := hb4.alloc hb4.size _
  have X4 := Lib.hid (X3.out.below b34)
  have Y4 := Lib.hid (Y3.out.below b34)
  have R4 := Lib.hid ((R3.out.below hb4 R3.out.lt).alloc (.cells #[.int .i64 r.k, .int .i64 r.l, .int .i64 r.s, .int .i64 r.d0, .int .i64 r.d1, .int .i64 r.d2, .int .i64 r.d3, .int .i64 r.d4, .int .i64 r.d5, .int .i64 r.sg, .int .i64 r.db] 24))
  have S4 := Lib.hid (Blk.new w4 24 #[.int .i64 r.k, .int .i64 r.l, .int .i64 r.s, .int .i64 r.d0, .int .i64 r.d1, .int .i64 r.d2, .int .i64 r.d3, .int .i64 r.d4, .int .i64 r.d5, .int .i64 r.sg, .int .i64 r.db])
  obtain ⟨W, hW⟩ : ∃ W, w4.alloc (.cells #[.int .i64 r.k, .int .i64 r.l, .int .i64 r.s, .int .i64 r.d0, .int .i64 r.d1, .int .i64 r.d2, .int .i64 r.d3, .int .i64 r.d4, .int .i64 r.d5, .int .i64 r.sg, .int .i64 r.db] 24) = W := ⟨_, rfl⟩
  rw [hW] at A4 B4 X4 Y4 R4 S4
  have HWd := Lib.hid hW
  clear hb4 hb04 b34 A3 B3 X3 Y3 R3 HR2 HR hW
  go_wp2_with fail
  rw [HWd.out]
  have hA := fun (m : Later W) => (A4.out.below m.bel A4.out.lt).eleven
  have hR := fun (m : Later W) => (R4.out.below m.bel R4.out.lt).eleven
  have hS := fun (m : Later W) => (S4.out.below m.bel S4.out.lt).eleven
  have af0 := fun m => (hA m).1
  have af1 := fun m => (hA m).2.1
  have af2 := fun m => (hA m).2.2.1
  have af3 := fun m => (hA m).2.2.2.1
  have af4 := fun m => (hA m).2.2.2.2.1
  have af5 := fun m => (hA m).2.2.2.2.2.1
  have af6 := fun m => (hA m).2.2.2.2.2.2.1
  have af7 := fun m => (hA m).2.2.2.2.2.2.2.1
  have af8 := fun m => (hA m).2.2.2.2.2.2.2.2.1
  have af9 := fun m => (hA m).2.2.2.2.2.2.2.2.2.1
  have af10 := fun m => (hA m).2.2.2.2.2.2.2.2.2.2
  have rf0 := fun m => (hR m).1
  have rf1 := fun m => (hR m).2.1
  have rf2 := fun m => (hR m).2.2.1
  have rf3 := fun m => (hR m).2.2.2.1
  have rf4 := fun m => (hR m).2.2.2.2.1
  have rf5 := fun m => (hR m).2.2.2.2.2.1
  have rf6 := fun m => (hR m).2.2.2.2.2.2.1
  have rf7 := fun m => (hR m).2.2.2.2.2.2.2.1
  have rf8 := fun m => (hR m).2.2.2.2.2.2.2.2.1
  have rf9 := fun m => (hR m).2.2.2.2.2.2.2.2.2.1
  have rf10 := fun m => (hR m).2.2.2.2.2.2.2.2.2.2
  have sf0 := fun m => (hS m).1
  have sf1 := fun m => (hS m).2.1
  have sf2 := fun m => (hS m).2.2.1
  have sf3 := fun m => (hS m).2.2.2.1
  have sf4 := fun m => (hS m).2.2.2.2.1
  have sf5 := fun m => (hS m).2.2.2.2.2.1
  have sf6 := fun m => (hS m).2.2.2.2.2.2.1
  have sf7 := fun m => (hS m).2.2.2.2.2.2.2.1
  have sf8 := fun m => (hS m).2.2.2.2.2.2.2.2.1
  have sf9 := fun m => (hS m).2.2.2.2.2.2.2.2.2.1
  have sf10 := fun m => (hS m).2.2.2.2.2.2.2.2.2.2
  have D1 := Lib.hid (fun (m : Later W) => later_below (HX1'.out m.to))
  have D2 := Lib.hid (fun (m : Later W) => later_below (HX2'.out m.to))
  have D3 := Lib.hid (fun (m : Later W) => later_same (HP1'.out m.to))
  have D4 := Lib.hid (fun (m : Later W) => later_same (HP2'.out m.to))
  have hSm := fun (m : Later W) => same_any X Y cx cy bb.length bb.length bb bb m.to (X4.out.below m.bel) (Y4.out.below m.bel) rfl rfl
  simp only [decide_true] at hSm
  have D5 := Lib.hid (fun (m : Later W) => later_same (hSm m))
  clear hSm hA hR hS A4 R4 S4 X4 Y4 HX1' HX2' HP1' HP2' HWd
  refine wp_region_later (by kernel_rfl) (by kernel_rfl) ?_
  repeat (go_big_quiet_step (with_reducible first | exact D1.out _ | exact D2.out _ | exact D3.out _ | exact D4.out _ | exact D5.out _ | exact iknown_later _))
  refine wpQuiet_nil ?_
  rintro _ ⟨q, rfl⟩
  go_wp2
  go_ret
  exact ⟨rfl, B4.out.trans (q.bel.mono B4.out.size)⟩

theorem inodeBytes_walk (k l s d0 d1 d2 d3 d4 d5 sg db : Int) (a : Option Addr) (len cap : Nat) (z : List Int) (S : Int) (w : World) (_w0 : (Lit.int .i64 k).wf = true) (_w1 : (Lit.int .i64 l).wf = true) (_w2 : (Lit.int .i64 s).wf = true) (_w3 : (Lit.int .i64 d0).wf = true) (_w4 : (Lit.int .i64 d1).wf = true) (_w5 : (Lit.int .i64 d2).wf = true) (_w6 : (Lit.int .i64 d3).wf = true) (_w7 : (Lit.int .i64 d4).wf = true) (_w8 : (Lit.int .i64 d5).wf = true) (_w9 : (Lit.int .i64 sg).wf = true) (_w10 : (Lit.int .i64 db).wf = true)
    (hz : Row8 w a len cap z) (_x1 : (Lit.int .i64 S).wf = true) :
    Calls Try.prog 3 #[.agg #[.int .i64 k, .int .i64 l, .int .i64 s, .int .i64 d0, .int .i64 d1, .int .i64 d2, .int .i64 d3, .int .i64 d4, .int .i64 d5, .int .i64 sg, .int .i64 db], .slice a len cap, .int .i64 S] w fun e w' => e = .returned (.bool true) ∧ Below w.heap.size w w' := by
  obtain ⟨n, rfl, hc, hr, -⟩ := hz.rw
  show Calls Try.prog 3 #[iv ⟨k, l, s, d0, d1, d2, d3, d4, d5, sg, db⟩, .slice a n.length cap, .int .i64 S] w _
  by_cases h : 1500 < n.length
  · exact inodeBytes_long _ a n.length cap S w h
  · exact inodeBytes_short _ a cap n S w (by omega) hr hc

end Go.Proofs.Ytolahkfjlifnoaa
