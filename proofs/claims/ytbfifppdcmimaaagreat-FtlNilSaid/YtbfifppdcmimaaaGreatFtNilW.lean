/-
  The statement on a translation that is not there, and on one whose chip is down.
-/
import Derived.Test.YtbfifppdcmimaaaGreatNC
import Derived.Test.YtbfifppdcmimaaaGreatFtNone
import Derived.Test.YtbfifppdcmimaaaGreatFtDown
import Derived.RangeFuncNested
import Derived.RangeFuncCalls
import Derived.RangeFuncBox
import Derived.RangeFuncLeaves
import Derived.RangeFuncWrites
import Derived.Shelf.Abstract
import Derived.OwnWalkIn
import Derived.TacticsInMore
import Derived.LoopNIn
import Derived.LoopIn
namespace Go.Proofs.YtbfifppdcmimaaaGreat
open Go.RowKit Crcm Gcm Ftlm Go.ChangeShapes Go.Maps

theorem nl_equalIn_func_nil (w : World) (n : Nat) (t : TypeId) (d : TypeDesc) (h : Tryz.prog.underlying t = some d) (hd : ∃ a b c, d = .func a b c) (f : Fn) (b l : Array Value) : (Op.equalIn (n + 1) t (.func f b l) .nilFunc).run Tryz.prog w = .ok false w := by
  obtain ⟨x, y, z, rfl⟩ := hd
  simp [Op.equalIn, run_underlying h]
theorem nl_eql_func_nil (w : World) (t : TypeId) (d : TypeDesc) (h : Tryz.prog.underlying t = some d) (hd : ∃ a b c, d = .func a b c) (f : Fn) (b l : Array Value) : (binOp .eql t (.func f b l) .nilFunc).run Tryz.prog w = .ok (.bool false) w := by
  simp only [binOp]
  simp [Op.equal, Op.maxDepth, nl_equalIn_func_nil w 9999 t d h hd f b l]
theorem nf_pages (w : World) : Calls Tryz.prog 7 #[.pointer none] w fun e w' => e = .returned (.func (.func 40) #[] #[.pointer (some ⟨w.heap.size, 0, none⟩)]) ∧ w' = w.alloc (.cells #[.slice none 0 0] 87) := by
  go_enter Tryz.func7, Tryz.ntmps7
  go_wp2
  go_ret
  exact ⟨rfl, rfl⟩

/-- no pages: nothing is handed on -/
theorem fpages0_stops (n : Nat) (Bn n₀ : Nat) (w : World) (hBn : Bn < w.heap.size) (hc : w.cell? ⟨Bn, 0, none⟩ = some (.slice none 0 0)) :
    SeqStopsK Fence.wide n Tryz.prog 40 #[.pointer (some ⟨Bn, 0, none⟩)] (fun x : Empty => nomatch x) (Below n₀) (fun xs => xs = []) (fun _ => False) 0 w := fun l J Jx W hW hJ _ hY h0 => by
  have hcell := (hW.cell (p := ⟨Bn, 0, none⟩) hBn).trans hc
  clear hJ hY hc
  refine callsIn_of_wp Tryz.func40 rfl trivial ?_ rfl
  simp only [Tryz.ntmps40, List.size_toArray, List.length_cons, List.length_nil, Nat.reduceAdd, Nat.reduceSub, Array.replicate_succ, Array.replicate_zero, List.push_toArray, List.append_toArray, List.nil_append, List.cons_append]
  gi_wp2_with fail
  gi_loopw [7] (fun s7 wr => s7 = .int .i64 0 ∧ J [] wr) (fun _ _ => 0)
  case atStart => exact ⟨rfl, h0⟩
  case round =>
    obtain ⟨rfl, hj⟩ := hrel
    gi_wp2
    go_end0
    exact ⟨⟨_, rfl⟩, .inl ⟨[], rfl, hj⟩⟩

/-- a loop over a function that hands on nothing -/
theorem wpIn_rangeFunc_zeroF {F : Fence} {n : Nat} {P : Program} {g : Operand} {ps : Array Tmp} {assign body : Code} {Q : Exit → Act → World → Prop} {a : Act} {w : World}
    (hro : F.round = none) (h1 : 1 ≤ n) {gf : Nat} {lb : Array Value} (hg : a.eval g = .func (.func gf) #[] lb) (hFg : F.fn gf) (eg : ∀ args w, (callFunc gf args).run P w = .ok (.enter gf args) w)
    {encs : Empty → Array Value} {Kp : World → World → Prop} (hseq : SeqStopsK F (n - 1) P gf lb encs Kp (fun xs => xs = []) (fun _ => False) 0 w)
    (hKt : ∀ {A B C : World}, Kp A B → Kp B C → Kp A C) (hKb : ∀ (W : World) (l : Nat) (o o' : Obj), w.heap.size ≤ l → W.heap[l]? = some o → o.isCells = false → o.isWalk = false → Kp W (W.putObj l o'))
    (I : World → Prop) (hI : OwnFrom w.heap.size (fun (_ : List Empty) W => I W)) (h0 : I w)
    (hdone : ∀ (D : Nat) (W : World), w.heap.size ≤ D → I W → W.heap[D]? = some (.deferred (some [])) → Q .normal { a with defers := { target := .collected D, args := #[] } :: a.defers } W) :
    (Code.rangeFunc g ps assign body).wpIn F n P Q a w :=
  wpIn_rangeFunc_ownG hro h1 hg hFg eg hseq hKt hKb (Below.refl _ _) (fun x => nomatch x) (fun _ W => I W) (fun _ _ _ => False) hI (fun _ => ownFrom_pure _ (fun _ => False)) h0
    (fun x => nomatch x)
    (fun _ x => nomatch x)
    (fun _ _ x => nomatch x) (fun D _ W hD _ hi hk => hdone D W hD hi hk) (fun _ _ _ _ _ h => h.elim)

attribute [local irreducible] kn0 kn1 kn2 kn3 knPp knBb knT knZ
set_option maxRecDepth 100000 in
set_option maxHeartbeats 2000000 in
theorem ftlNil_walk (k : Int) (a : Option Addr) (n c : Nat) (z : List Int) (w : World) (_hk : (Lit.int .u32 k).wf = true) (_hr : Row8 w a n c z) :
    Calls Tryz.prog 3 #[.int .u32 k, .slice a n c] w fun e w' => e = .returned (.bool true) ∧ Below w.heap.size w w' := by
  have HRd := Lib.hid (nf_read w k)
  have HFo := Lib.hid (nf_format w 1 a n c)
  have HOp := Lib.hid (fun W => nf_open W)
  have HPg := Lib.hid (fun W => nf_pages W)
  have HWr := Lib.hid (fun W => nf_write W k a n c)
  have HDr := Lib.hid (fun W => nf_drop W k)
  have HSe := Lib.hid (fun W => nf_seal W a n c)
  have HTe := Lib.hid (fun W => nf_text W)
  have HUs := Lib.hid (fun W => nf_used W)
  have HCa := Lib.hid (fun W => nf_capacity W)
  have HRo := Lib.hid (fun W => nf_readOnly W)
  have HKn := Lib.hid (fun W => knownF_any W)
  have HNew := Lib.hid (fun W => new_any 8 4 64 W (show Gd 8 4 64 from ⟨by omega, by omega, by omega, by omega, .inl rfl⟩) [] none 0 0 Ri.nil rfl)
  unfold geoV at HNew
  obtain ⟨i8, hi8, hy0, hy1, hy2⟩ := info_parts Tryz.info8
  have hmk := fun (n : Nat) (hn : n < 1000) W => run_make (P := Tryz.prog) W 23 5 i8 _ Tryz.underlying23 hi8 hy0 .i64 .i64 n n (by omega) (Int.le_refl _) (by rw [hy2]; omega) (by omega)
  have eI : (Value.int .u8 0).cells = #[.int .u8 0] := rfl
  simp only [Int.toNat_natCast, hy1, Nat.mul_one, eI] at hmk
  have hm56 := hmk 56 (by omega)
  have hm64 := hmk 64 (by omega)
  have e56 : ((56 : Nat) : Int) = 56 := rfl
  have e64 : ((64 : Nat) : Int) = 64 := rfl
  rw [e56] at hm56
  rw [e64] at hm64
  clear hmk hi8 hy0 hy1 hy2 eI e56 e64
  have hfn := fun W f b l => nl_eql_func_nil W 32 _ Tryz.underlying32 ⟨_, _, _, rfl⟩ f b l
  clear _hk _hr
  refine (callsIn_wide (n := 5)).1 ?_
  refine callsIn_of_wp_marks Tryz.func3 rfl trivial ?_ rfl
  simp only [Tryz.ntmps3, List.size_toArray, List.length_cons, List.length_nil, Nat.reduceAdd, Nat.reduceSub, Array.replicate_succ, Array.replicate_zero, List.push_toArray, List.append_toArray, List.nil_append, List.cons_append]
  refine wpIn_wide.2 ?_
  go_wp2_with fail
  refine HRd.out.mono ?_
  rintro r w' ⟨rfl, rfl⟩
  go_wp2_with fail
  refine HFo.out.mono ?_
  rintro r w2 ⟨rfl, hb2⟩
  have HB2 := Lib.hid hb2
  clear hb2 HRd HFo
  go_wp2_with fail
  refine (HOp.out _).mono ?_
  rintro r w' ⟨rfl, rfl⟩
  go_wp2_with fail
  refine (HPg.out _).mono ?_
  rintro r w' ⟨rfl, rfl⟩
  go_wp2_with fail
  have bN := Boxed.new w2 3 (.int .i64 0)
  have bP : ((w2.alloc (.cells #[.int .i64 0] 3)).alloc (.cells #[.slice none 0 0] 87)).cell? ⟨w2.heap.size + 1, 0, none⟩ = some (.slice none 0 0) := by
    have := Boxed.cell (Boxed.new (w2.alloc (.cells #[.int .i64 0] 3)) 87 (.slice none 0 0))
    rw [World.size_alloc] at this
    exact this
  have hB0 : Below w2.heap.size w2 ((w2.alloc (.cells #[.int .i64 0] 3)).alloc (.cells #[.slice none 0 0] 87)) := ((Below.refl _ w2).alloc (Nat.le_refl _) _).alloc (by simp) _
  refine (wpIn_wide (n := 5)).1 ?_
  refine wpIn_rangeFunc_zeroF rfl (by omega) (gf := 40) (lb := #[.pointer (some ⟨w2.heap.size + 1, 0, none⟩)]) rfl trivial (enters_of Tryz.func40 (by kernel_rfl) rfl)
    (fpages0_stops 4 (w2.heap.size + 1) w2.heap.size _ (by simp) bP) belowK_t (belowK_b (by simp; omega))
    (fun W => Boxed W w2.heap.size 3 (.int .i64 0) ∧ Below w2.heap.size w2 W)
    (OwnFrom.and (Own.from (boxed_own w2.heap.size 3 (fun _ => .int .i64 0)) _) (ownFrom_below (Nat.le_refl _) (by simp; omega)))
    ⟨bN.alloc _, hB0⟩ ?done
  case done =>
    rintro D W hD ⟨hb, hB⟩ hK
    have hc := hb.cell
    have HC := Lib.hid hc
    have HB := Lib.hid hB
    have HK := Lib.hid hK
    have HD := Lib.hid hD
    clear hB0 bN bP hb hB hK hD hc
    go_wp2_with fail
    refine (HNew.out _).mono ?_
    rintro r w1 ⟨hB1, ⟨-, o, rfl, hC, hF⟩ | ⟨⟨x, hx, -⟩, -⟩⟩
    rotate_left
    · cases hx
    have hC : ChAt w1 (o.F 8) o kn0 := kn_chip hC
    have hop : o.p = .pointer (some ⟨o.bc, 0, none⟩) := rfl
    rw [hop]
    have hbA : Below w1.heap.size w1 (w1.alloc (.cells (madeCells #[.int .u8 0] 56) 5)) := (Below.refl _ _).alloc (Nat.le_refl _) _
    obtain ⟨G1, hG1⟩ : ∃ b, w1.heap.size = b := ⟨_, rfl⟩
    have hBk : Blk (w1.alloc (.cells (madeCells #[.int .u8 0] 56) 5)) G1 5 (madeCells #[.int .u8 0] 56) := by rw [← hG1]; exact heap_alloc_new w1 _
    have HFo := Lib.hid (kn_format (hC.below hbA) (cp := 56) ((rw_T (rw_made hBk (by omega))).toX (fun e => by have := hC.old _ e; omega)))
    have HV2 := Lib.hid (hB1.trans (hbA.mono hB1.size))
    have HF := Lib.hid hF
    clear hC hB1 hF hBk hbA hop HNew
    go_wp2_with fail
    generalize w1.alloc (.cells (madeCells #[.int .u8 0] 56) 5) = V2 at HFo HV2 ⊢
    refine HFo.out.mono ?_
    rintro e w3 ⟨⟨a3, m, v, X', rfl, hft, -, -⟩, hk3⟩
    have hop : o.p = .pointer (some ⟨o.bc, 0, none⟩) := rfl
    have hlo := lose_any hft.ch
    rw [hop, (kn2_nums knPp).1] at hlo
    have HLo := Lib.hid hlo
    have hoF : ¬ o.F 8 a3.F := by have := hft.ne.oF; rw [(kn2_nums knPp).1] at this; exact this
    have HV3 := Lib.hid (HV2.out.trans (hk3.below (B := W.heap.size) (fun b e => HF.out b e) HV2.out.size))
    have HFt := Lib.hid hft.ft
    have HoF := Lib.hid hoF
    clear hft hk3 hlo hop hoF HFo
    go_wp2_with fail
    refine HLo.out.mono ?_
    rintro e w4 ⟨rfl, hC4, hk4⟩
    have hF4 := HFt.out.kp hk4 HoF.out
    have g0 : w4.cell? ⟨a3.F, 0, none⟩ = some (.pointer (some ⟨o.bc, 0, none⟩)) := (hF4.cell 0).trans rfl
    have g4 : w4.cell? ⟨a3.F, 4, none⟩ = some (.int .i64 v.cap) := (hF4.cell 4).trans rfl
    have HV4 := Lib.hid (HV3.out.trans (hk4.below (B := W.heap.size) (fun b e => HF.out b e) HV3.out.size))
    have HRd4 := Lib.hid (fread_down hC4 rfl g0 g4 1 (by omega))
    have HOp4 := Lib.hid (fopen_down hC4 rfl)
    have HC4 := Lib.hid hC4
    have HF4 := Lib.hid hF4
    clear hC4 hk4 hF4 g0 g4 HLo HFt
    go_wp2_with fail
    refine HRd4.out.mono ?_
    rintro e w' ⟨rfl, rfl⟩
    go_wp2_with fail
    refine HOp4.out.mono ?_
    rintro e w' ⟨rfl, rfl⟩
    have hbA : Below w4.heap.size w4 (w4.alloc (.cells (madeCells #[.int .u8 0] 56) 5)) := (Below.refl _ _).alloc (Nat.le_refl _) _
    obtain ⟨G2, hG2⟩ : ∃ b, w4.heap.size = b := ⟨_, rfl⟩
    have HFd := Lib.hid (fformat_down (HC4.out.below hbA) rfl 1 (some ⟨G2, 0, none⟩) 56 56)
    have HV5 := Lib.hid (HV4.out.trans (hbA.mono HV4.out.size))
    have HC5 := Lib.hid (HC4.out.below hbA)
    have HF5 := Lib.hid (HF4.out.below hbA HF4.out.lt)
    clear hbA HRd4 HOp4
    go_wp2_with fail
    generalize w4.alloc (.cells (madeCells #[.int .u8 0] 56) 5) = V5 at HFd HV5 HC5 HF5 ⊢
    refine HFd.out.mono ?_
    rintro e w5 ⟨rfl, hb5⟩
    have HV6 := Lib.hid (HV5.out.trans (hb5.mono HV5.out.size))
    have HC6 := Lib.hid (HC5.out.below hb5)
    have HF6 := Lib.hid (HF5.out.below hb5 HF5.out.lt)
    have c5 := (HV6.out.cell (block_lt_of_cell HC.out)).trans HC.out
    clear hb5 HFd
    go_wp2_with fail
    refine (HWr.out _).mono ?_
    rintro r w' ⟨rfl, rfl⟩
    go_wp2_with fail
    refine (HDr.out _).mono ?_
    rintro r w' ⟨rfl, rfl⟩
    go_wp2_with fail
    refine (HSe.out _).mono ?_
    rintro r w' ⟨rfl, rfl⟩
    go_wp2_with fail
    refine (HTe.out _).mono ?_
    rintro r w' ⟨rfl, rfl⟩
    go_wp2_with fail
    refine (HUs.out _).mono ?_
    rintro r w' ⟨rfl, rfl⟩
    go_wp2_with fail
    refine (HCa.out _).mono ?_
    rintro r w' ⟨rfl, rfl⟩
    go_wp2_with fail
    refine (HRo.out _).mono ?_
    rintro r w6 ⟨rfl, hb6⟩
    clear c5
    have hbA : Below w6.heap.size w6 (w6.alloc (.cells (madeCells #[.int .u8 0] 64) 5)) := (Below.refl _ _).alloc (Nat.le_refl _) _
    have hb7 := hb6.trans (hbA.mono hb6.size)
    obtain ⟨G3, hG3⟩ : ∃ b, w6.heap.size = b := ⟨_, rfl⟩
    have HV7 := Lib.hid (HV6.out.trans (hb7.mono HV6.out.size))
    have hC7 := HC6.out.below hb7
    have hF7 := HF6.out.below hb7 HF6.out.lt
    have g0 := (hF7.cell 0).trans (show _ = some (.pointer (some ⟨o.bc, 0, none⟩)) from rfl)
    have g4 := (hF7.cell 4).trans (show _ = some (.int .i64 v.cap) from rfl)
    have HWd := Lib.hid (fwrite_down hC7 rfl g0 g4 1 (some ⟨G3, 0, none⟩) 64 64 (by omega))
    have HDd := Lib.hid (fdrop_down hC7 rfl g0 g4 1 (by omega))
    have HC7 := Lib.hid hC7
    have HF7 := Lib.hid hF7
    clear hbA hb6 hb7 hC7 hF7 g0 g4
    go_wp2_with fail
    generalize w6.alloc (.cells (madeCells #[.int .u8 0] 64) 5) = V7 at HWd HDd HV7 HC7 HF7 ⊢
    refine HWd.out.mono ?_
    rintro e w' ⟨rfl, rfl⟩
    go_wp2_with fail
    refine HDd.out.mono ?_
    rintro e w' ⟨rfl, rfl⟩
    have hbA : Below V7.heap.size V7 (V7.alloc (.cells (madeCells #[.int .u8 0] 56) 5)) := (Below.refl _ _).alloc (Nat.le_refl _) _
    obtain ⟨G4, hG4⟩ : ∃ b, V7.heap.size = b := ⟨_, rfl⟩
    have HV8 := Lib.hid (HV7.out.trans (hbA.mono HV7.out.size))
    have hF8 := HF7.out.below hbA HF7.out.lt
    have g0 := (hF8.cell 0).trans (show _ = some (.pointer (some ⟨o.bc, 0, none⟩)) from rfl)
    have HSd := Lib.hid (fseal_down (HC7.out.below hbA) rfl g0 (some ⟨G4, 0, none⟩) 56 56)
    clear hbA hF8 g0 HWd HDd
    go_wp2_with fail
    generalize V7.alloc (.cells (madeCells #[.int .u8 0] 56) 5) = V8 at HSd HV8 ⊢
    refine HSd.out.mono ?_
    rintro e w' ⟨rfl, rfl⟩
    clear HSd
    go_wp2_with fail
    refine (HKn.out _).mono ?_
    rintro r w9 ⟨rfl, hb9⟩
    have HB3 := Lib.hid (HV8.out.trans (hb9.mono HV8.out.size))
    clear hb9
    go_wp2
    have hDl : D < W.heap.size := by
      rcases Nat.lt_or_ge D W.heap.size with h | h
      · exact h
      · have := HK.out; rw [Array.getElem?_eq_none h] at this; cases this
    have hK3 := (HB3.out.block D hDl).trans HK.out
    refine ⟨by simp, .inl ⟨_, _, rfl, run_takeDeferred hK3, ?_⟩⟩
    refine ⟨.bool true, by simp [results, Tryz.results3, go_sem], ?_⟩
    have hw2 : Below w.heap.size w w9 := (HB2.out.trans (HB.out.mono HB2.out.size)).trans (HB3.out.mono (Nat.le_trans HB2.out.size HB.out.size))
    exact ⟨rfl, hw2.trans (belowK_b (w := w) (Nat.le_refl _) w9 D _ _ (by have := HD.out; have := HB2.out.size; simp at *; omega) hK3 rfl rfl)⟩
end Go.Proofs.YtbfifppdcmimaaaGreat
