/-
  A set of bytes as it is written: the program's reading.
-/
import Derived.Test.YtaielamimkigmaaGlobText
import Derived.Test.YtaielamimkigmaaGlobParse
import Derived.Deep.RegionHeld3
import Derived.WalkMore
namespace Go.Proofs.Ytaielamimkigmaa
open Go.RowKit Go.ChangeShapes Globm Go.ChangeMaps

/-- the cells of a set of which nothing is known but that they are there -/
def zs4 : Array Value := #[.int .u64 0, .int .u64 0, .int .u64 0, .int .u64 0]
/-- what the program hands back -/
def secV : Option ((Nat → Bool) × List Nat) → Value → Prop
  | none, v => v = .tuple #[.agg zs4, .string ⟨#[]⟩, .bool false]
  | some (P, r), v => ∃ t : ByteArray, by8 t = r ∧ v = .tuple #[sv P, .string t, .bool true]
theorem cells4 {w : World} {g : Nat} {t : TypeId} {a b c d : Value} (h : Blk w g t #[a, b, c, d]) :
    w.cell? ⟨g, 0, none⟩ = some a ∧ w.cell? ⟨g, 1, none⟩ = some b ∧ w.cell? ⟨g, 2, none⟩ = some c ∧ w.cell? ⟨g, 3, none⟩ = some d ∧
    w.frozen? ⟨g, 0, none⟩ = false ∧ w.frozen? ⟨g, 1, none⟩ = false ∧ w.frozen? ⟨g, 2, none⟩ = false ∧ w.frozen? ⟨g, 3, none⟩ = false :=
  ⟨h.cell 0, h.cell 1, h.cell 2, h.cell 3, h.frozen 0, h.frozen 1, h.frozen 2, h.frozen 3⟩
theorem bgR_by8 (s : ByteArray) : by8 (bgR s) = if bgB s then (by8 s).drop 1 else by8 s := by
  unfold bgR
  cases bgB s
  · rfl
  · simp only [if_true]; exact by8_from s 1

/-- what lies in memory while a set is read -/
structure SecS (w : World) (P : Nat → Bool) (w' : World) : Prop where
  b0 : Blk w' w.heap.size 73 zs4
  b1 : Blk w' (w.heap.size + 1) 73 (ws P)
  bb : Below w.heap.size w w'
theorem SecS.below {w : World} {P : Nat → Bool} {a b : World} (h : SecS w P a) (hb : Below a.heap.size a b) : SecS w P b := ⟨h.b0.below hb h.b0.lt, h.b1.below hb h.b1.lt, h.bb.trans (hb.mono h.bb.size)⟩
theorem SecS.put {w w' : World} {P : Nat → Bool} (Q : Nat → Bool) (h : SecS w P w') : SecS w Q ((((w'.setCell ⟨w.heap.size + 1, 0, none⟩ (sw Q 0)).setCell ⟨w.heap.size + 1, 1, none⟩ (sw Q 1)).setCell ⟨w.heap.size + 1, 2, none⟩ (sw Q 2)).setCell ⟨w.heap.size + 1, 3, none⟩ (sw Q 3)) :=
  ⟨(((h.b0.far (p := ⟨w.heap.size + 1, 0, none⟩) (by simp) _).far (p := ⟨w.heap.size + 1, 1, none⟩) (by simp) _).far (p := ⟨w.heap.size + 1, 2, none⟩) (by simp) _).far (p := ⟨w.heap.size + 1, 3, none⟩) (by simp) _,
    h.b1.put4 (sw Q 0) (sw Q 1) (sw Q 2) (sw Q 3), below_put4 h.bb (show w.heap.size ≤ w.heap.size + 1 by omega) (sw Q 0) (sw Q 1) (sw Q 2) (sw Q 3)⟩

set_option maxRecDepth 100000 in
set_option maxHeartbeats 16000000 in
theorem members_any (s : ByteArray) (w : World) (hs : s.size ≤ 1000) :
    Calls Try.prog 59 #[.string s] w fun e w' => (∃ v, e = .returned v ∧ secV (sect (by8 s)) v) ∧ Below w.heap.size w w' := by
  have HC := Lib.hid (fun W => cutBang_any s W)
  have hz : (bgR s).size ≤ 1000 := by
    unfold bgR; split
    · simp; omega
    · exact hs
  obtain ⟨t0, ht0⟩ : ∃ t0, bgR s = t0 := ⟨_, rfl⟩
  obtain ⟨neg, hneg⟩ : ∃ neg, bgB s = neg := ⟨_, rfl⟩
  have hb8 := bgR_by8 s
  have hsect : sect (by8 s) = if neg then (mem (by8 t0) (fun _ => false) false).map (fun x => (fun y => !x.1 y, x.2)) else mem (by8 t0) (fun _ => false) false := by
    unfold sect
    rw [bgB_head] at hneg
    rw [← ht0, hb8, bgB_head, hneg]
    cases neg with
    | true => simp only [if_true]; rw [if_pos (by simpa using hneg)]
    | false => rw [if_neg (by simpa using hneg)]; rfl
  rw [ht0] at hz
  rw [ht0, hneg] at HC
  obtain ⟨res, hres⟩ : ∃ res, mem (by8 t0) (fun _ => false) false = res := ⟨_, rfl⟩
  rw [hsect, hres]
  have HRes := Lib.hid hres
  obtain ⟨W, hW⟩ : ∃ W, (w.alloc (.cells zs4 73)).alloc (.cells zs4 73) = W := ⟨_, rfl⟩
  have BB : Hid (Below w.heap.size w W) := Lib.hid (by rw [← hW]; exact ((Below.refl _ w).alloc (Nat.le_refl _) _).alloc (by simp) _)
  have B0 : Hid (Blk W w.heap.size 73 zs4) := Lib.hid (by rw [← hW]; exact (Blk.new w _ _).alloc _)
  have B1 : Hid (Blk W (w.heap.size + 1) 73 (ws (fun _ => false))) := Lib.hid (by
    have := Blk.new (w.alloc (.cells zs4 73)) 73 zs4
    rw [hW] at this
    obtain ⟨h0, h1, h2, h3⟩ := wj_empty.2 (fun x (_ : x < 256) => (rfl : (fun _ : Nat => false) x = false))
    have e : ws (fun _ => false) = zs4 := by simp [ws, sw, h0, h1, h2, h3, zs4]
    rw [e]
    simpa using this)
  have HW := Lib.hid hW
  clear hs hb8 hsect hres hW ht0 hneg
  unfold zs4 at HW
  go_enter Try.func59, Try.ntmps59
  go_wp2_with fail
  go_step3
  go_wp2_with fail
  refine (HC.out _).mono ?_
  rintro e w2 ⟨rfl, rfl⟩
  go_wp2_with fail
  rw [HW.out]
  go_step3
  go_wp2_with fail
  go_loopw [0, 7] (fun x y wr => ∃ (t : ByteArray) (m : Nat) (P : Nat → Bool), x = .string t ∧ y = .int .i64 m ∧ m + t.size ≤ 1000 ∧ Hid (mem (by8 t) P (decide (m ≠ 0)) = res) ∧ Hid (Blk wr w.heap.size 73 zs4) ∧ Hid (Blk wr (w.heap.size + 1) 73 (ws P)) ∧ Hid (Below w.heap.size w wr)) (fun x _ _ => match x with | .string t => t.size | _ => 0)
  case atStart => exact ⟨t0, 0, _, rfl, rfl, by omega, HRes, B0, B1, BB⟩
  case round =>
    obtain ⟨t, m, P, rfl, rfl, hmt, hres, b0, b1, bb⟩ := hrel
    rcases Nat.eq_zero_or_pos t.size with h0 | hpos
    · rw [by8_nil h0, mem_nil] at hres
      have hr := hres.out
      subst hr
      obtain rfl : t = ⟨#[]⟩ := by
        obtain ⟨⟨l⟩⟩ := t
        match l, h0 with
        | [], _ => rfl
        | b :: r, h0 => simp [ByteArray.size] at h0
      have b0' := b0.out
      unfold zs4 at b0'
      obtain ⟨e0, e1, e2, e3, f0, f1, f2, f3⟩ := cells4 b0'
      have K := b0'.put4 (.int .u64 0) (.int .u64 0) (.int .u64 0) (.int .u64 0)
      have KB := Lib.hid (below_put4 bb.out (Nat.le_refl w.heap.size) (.int .u64 0) (.int .u64 0) (.int .u64 0) (.int .u64 0))
      have k0 := K.cell 0
      have k1 := K.cell 1
      have k2 := K.cell 2
      have k3 := K.cell 3
      clear K b0'
      rcases Nat.eq_zero_or_pos m with rfl | hm
      · go_wp2_with fail
        all_goals exact bodyPost_ret (v := .tuple #[.agg zs4, .string ⟨#[]⟩, .bool false]) (by simp [zs4, results, Try.results59, go_sem, k0, k1, k2, k3]) rfl ⟨⟨_, rfl, by first | rfl | (cases neg <;> rfl)⟩, KB.out⟩
      · have hm0 : ((m : Int) == 0) = false := by simp; omega
        go_wp2_with fail
        all_goals exact bodyPost_ret (v := .tuple #[.agg zs4, .string ⟨#[]⟩, .bool false]) (by simp [zs4, results, Try.results59, go_sem, k0, k1, k2, k3]) rfl ⟨⟨_, rfl, by first | rfl | (cases neg <;> rfl)⟩, KB.out⟩
    · have i0 : (0 : Int) < (t.size : Int) := by omega
      have hne : t.toList.isEmpty = false := by
        rw [ByteArray.toList_eq]
        obtain ⟨⟨l⟩⟩ := t
        match l, hpos with
        | b :: r, _ => rfl
        | [], h => exact absurd h (by decide)
      have ha := by8_drop hpos
      rw [List.drop_zero] at ha
      have hfrom := by8_from t 1
      by_cases h93 : t[0].toNat = 93
      · have h93' : ((t[0].toNat : Int) == 93) = true := by rw [h93]; rfl
        rw [ha, h93] at hres
        rcases Nat.eq_zero_or_pos m with rfl | hm
        · rw [show decide (0 ≠ 0) = false from rfl, mem_none] at hres
          have hr := hres.out
          subst hr
          have b0' := b0.out
          unfold zs4 at b0'
          obtain ⟨e0, e1, e2, e3, f0, f1, f2, f3⟩ := cells4 b0'
          have K := b0'.put4 (.int .u64 0) (.int .u64 0) (.int .u64 0) (.int .u64 0)
          have KB := Lib.hid (below_put4 bb.out (Nat.le_refl w.heap.size) (.int .u64 0) (.int .u64 0) (.int .u64 0) (.int .u64 0))
          have k0 := K.cell 0
          have k1 := K.cell 1
          have k2 := K.cell 2
          have k3 := K.cell 3
          clear K b0'
          go_wp2_with fail
          all_goals exact bodyPost_ret (v := .tuple #[.agg zs4, .string ⟨#[]⟩, .bool false]) (by simp [zs4, results, Try.results59, go_sem, k0, k1, k2, k3]) rfl ⟨⟨_, rfl, by first | rfl | (cases neg <;> rfl)⟩, KB.out⟩
        · have hm0 : ((m : Int) == 0) = false := by simp; omega
          rw [show decide (m ≠ 0) = true from decide_eq_true (by omega), mem_end] at hres
          have hr := hres.out
          subst hr
          have i1 : (1 : Int) ≤ (t.size : Int) := by omega
          cases neg with
          | false =>
            have b0' := b0.out
            unfold zs4 at b0'
            obtain ⟨e0, e1, e2, e3, f0, f1, f2, f3⟩ := cells4 b0'
            have b1' := b1.out
            unfold ws at b1'
            obtain ⟨d0, d1, d2, d3, -, -, -, -⟩ := cells4 b1'
            unfold sw at d0 d1 d2 d3
            have K := b0'.put4 (.int .u64 (wj P 0 : Nat)) (.int .u64 (wj P 1 : Nat)) (.int .u64 (wj P 2 : Nat)) (.int .u64 (wj P 3 : Nat))
            have KB := Lib.hid (below_put4 bb.out (Nat.le_refl w.heap.size) (.int .u64 (wj P 0 : Nat)) (.int .u64 (wj P 1 : Nat)) (.int .u64 (wj P 2 : Nat)) (.int .u64 (wj P 3 : Nat)))
            have k0 := K.cell 0
            have k1 := K.cell 1
            have k2 := K.cell 2
            have k3 := K.cell 3
            clear K b0' b1'
            have hR : sv P = .agg #[.int .u64 (wj P 0 : Nat), .int .u64 (wj P 1 : Nat), .int .u64 (wj P 2 : Nat), .int .u64 (wj P 3 : Nat)] := rfl
            have HR := Lib.hid hR
            clear hR hres hm hmt ha
            generalize (wj P 0 : Nat) = A0 at *
            generalize (wj P 1 : Nat) = A1 at *
            generalize (wj P 2 : Nat) = A2 at *
            generalize (wj P 3 : Nat) = A3 at *
            go_wp2_with fail
            go_region
            go_wp2
            rw [Exit.noGoto_ret]
            exact bodyPost_ret (v := .tuple #[.agg #[.int .u64 A0, .int .u64 A1, .int .u64 A2, .int .u64 A3], .string (t.extract 1 t.size), .bool true]) (by simp [results, Try.results59, go_sem, k0, k1, k2, k3]) rfl ⟨⟨_, rfl, t.extract 1 t.size, hfrom, by rw [HR.out]⟩, KB.out.drew⟩
          | true =>
            have HO := Lib.hid (fun W => others_any P W)
            have b1' := b1.out
            unfold ws at b1'
            obtain ⟨d0, d1, d2, d3, -, -, -, -⟩ := cells4 b1'
            unfold sv at HO
            clear b1' hres hm hmt ha
            go_wp2_with fail
            refine (HO.out _).mono ?_
            rintro e w3 ⟨rfl, hb3⟩
            have bb3 := Lib.hid (bb.out.trans (hb3.mono bb.out.size))
            have b03 := b0.out.below hb3 b0.out.lt
            have b13 := b1.out.below hb3 b1.out.lt
            clear d0 d1 d2 d3 hb3
            have hR : sv (fun x => !P x) = .agg #[.int .u64 (wj (fun x => !P x) 0 : Nat), .int .u64 (wj (fun x => !P x) 1 : Nat), .int .u64 (wj (fun x => !P x) 2 : Nat), .int .u64 (wj (fun x => !P x) 3 : Nat)] := rfl
            have HR := Lib.hid hR
            unfold sw
            clear hR
            generalize (wj (fun x => !P x) 0 : Nat) = A0 at *
            generalize (wj (fun x => !P x) 1 : Nat) = A1 at *
            generalize (wj (fun x => !P x) 2 : Nat) = A2 at *
            generalize (wj (fun x => !P x) 3 : Nat) = A3 at *
            obtain ⟨w4, hw4⟩ : ∃ w4, (((w3.setCell ⟨w.heap.size + 1, 0, none⟩ (.int .u64 A0)).setCell ⟨w.heap.size + 1, 1, none⟩ (.int .u64 A1)).setCell ⟨w.heap.size + 1, 2, none⟩ (.int .u64 A2)).setCell ⟨w.heap.size + 1, 3, none⟩ (.int .u64 A3) = w4 := ⟨_, rfl⟩
            unfold ws at b13
            obtain ⟨d0, d1, d2, d3, q0, q1, q2, q3⟩ := cells4 b13
            have b14 := b13.put4 (.int .u64 A0) (.int .u64 A1) (.int .u64 A2) (.int .u64 A3)
            have bb4 := Lib.hid (below_put4 bb3.out (show w.heap.size ≤ w.heap.size + 1 by omega) (.int .u64 A0) (.int .u64 A1) (.int .u64 A2) (.int .u64 A3))
            have b04 : Blk w4 w.heap.size 73 zs4 := by
              rw [← hw4]
              exact (((b03.far (p := ⟨w.heap.size + 1, 0, none⟩) (by simp) _).far (p := ⟨w.heap.size + 1, 1, none⟩) (by simp) _).far (p := ⟨w.heap.size + 1, 2, none⟩) (by simp) _).far (p := ⟨w.heap.size + 1, 3, none⟩) (by simp) _
            rw [hw4] at b14 bb4
            obtain ⟨c0, c1, c2, c3, -, -, -, -⟩ := cells4 b14
            unfold zs4 at b04
            obtain ⟨e0, e1, e2, e3, f0, f1, f2, f3⟩ := cells4 b04
            have K := b04.put4 (.int .u64 A0) (.int .u64 A1) (.int .u64 A2) (.int .u64 A3)
            have KB := Lib.hid (below_put4 bb4.out (Nat.le_refl w.heap.size) (.int .u64 A0) (.int .u64 A1) (.int .u64 A2) (.int .u64 A3))
            have k0 := K.cell 0
            have k1 := K.cell 1
            have k2 := K.cell 2
            have k3 := K.cell 3
            have HW4 := Lib.hid hw4
            clear K b03 b13 b14 b04 hw4
            go_wp2_with fail
            rw [HW4.out]
            go_region
            go_wp2
            rw [Exit.noGoto_ret]
            exact bodyPost_ret (v := .tuple #[.agg #[.int .u64 A0, .int .u64 A1, .int .u64 A2, .int .u64 A3], .string (t.extract 1 t.size), .bool true]) (by simp [results, Try.results59, go_sem, k0, k1, k2, k3]) rfl ⟨⟨_, rfl, t.extract 1 t.size, hfrom, by rw [HR.out]⟩, KB.out.drew⟩
      · have h93' : ((t[0].toNat : Int) == 93) = false := by simp; omega
        have hlt0 : t[0].toNat < 256 := UInt8.toNat_lt _
        by_cases hsp : ∃ h2 : 2 < t.size, t[1].toNat = 45 ∧ t[2].toNat ≠ 93
        · obtain ⟨h2, h45, hb⟩ := hsp
          have h2' : (2 : Int) < (t.size : Int) := by omega
          have h45' : ((t[1].toNat : Int) == 45) = true := by rw [h45]; rfl
          have hb' : ((t[2].toNat : Int) != 93) = true := by simp; omega
          have hlt2 : t[2].toNat < 256 := UInt8.toNat_lt _
          have hL : by8 t = t[0].toNat :: 45 :: t[2].toNat :: (by8 t).drop 3 := by
            rw [← h45, ← by8_drop h2, ← by8_drop (by omega : 1 < t.size)]; exact ha
          have hfrom3 := by8_from t 3
          rw [hL, mem_span h93 hb, ← hfrom3] at hres
          obtain ⟨Q, hQ⟩ : ∃ Q, (fun x => P x || spn t[0].toNat t[2].toNat x) = Q := ⟨_, rfl⟩
          have hmem : (fun x => P x || sp t[0].toNat t[2].toNat x) = Q := hQ
          rw [hmem] at hres
          have hS0 := b1.out.drew
          have hS1 := And.intro b0.out.drew bb.out.drew
          have HSp := Lib.hid (fun w' (h : SecS w P w') => (span_any t[0].toNat t[2].toNat hlt0 hlt2 w').mono (R' := fun r w'' => r = .returned (sv (spn t[0].toNat t[2].toNat)) ∧ SecS w P w'') fun r w'' hq => ⟨hq.1, h.below hq.2⟩)
          have HWi := Lib.hid (fun w' (h : SecS w P w') => (with_any P (spn t[0].toNat t[2].toNat) w').mono (R' := fun r w'' => r = .returned (.agg #[.int .u64 (wj Q 0 : Nat), .int .u64 (wj Q 1 : Nat), .int .u64 (wj Q 2 : Nat), .int .u64 (wj Q 3 : Nat)]) ∧ SecS w P w'') fun r w'' hq => ⟨by rw [hq.1, hQ]; rfl, h.below hq.2⟩)
          have hS : SecS w P wr.drew := ⟨hS1.1, hS0, hS1.2⟩
          have HRs : Hid (mem (by8 (t.extract 3 t.size)) Q (decide (m + 1 ≠ 0)) = res) := Lib.hid (by rw [decide_eq_true (by omega : m + 1 ≠ 0)]; exact hres.out)
          have HMt : Hid (m + 1 + (t.extract 3 t.size).size ≤ 1000) := Lib.hid (by simp; omega)
          have HMe : Hid ((t.extract 3 t.size).size < t.size) := Lib.hid (by simp; omega)
          have hmI : (m : Int) ≤ 1000 := by omega
          have d9 := hS.b1
          unfold ws sw at d9
          obtain ⟨d0, d1, d2, d3, -, -, -, -⟩ := cells4 d9
          clear ha hL hlt0 hlt2 h93 h45 hb hmt hQ hmem hS0 hS1 hres d9
          go_wp2_with fail
          refine wp_region_any (by kernel_rfl) ?_
          refine wpAny_take (i := 1) (v := .string t) rfl (by kernel_rfl) (by kernel_rfl) (by kernel_rfl) (fun _ _ _ h => h) (Or.inl ⟨by kernel_rfl, ?_⟩) ?_
          · intro w'; go_simp
          refine wpAny_take (i := 3) (v := .string t) rfl (by kernel_rfl) (by kernel_rfl) (by kernel_rfl) (fun _ _ _ h => h) (Or.inl ⟨by kernel_rfl, ?_⟩) ?_
          · intro w'; go_simp
          refine wpAny_take (i := 2) (v := .int .u8 t[0].toNat) rfl (by kernel_rfl) (by kernel_rfl) (by kernel_rfl) (fun _ _ _ h => h) (Or.inl ⟨by kernel_rfl, ?_⟩) ?_
          · intro w'; go_simp
          refine wpAny_take (i := 4) (v := .int .u8 t[2].toNat) rfl (by kernel_rfl) (by kernel_rfl) (by kernel_rfl) (fun _ _ _ h => h) (Or.inl ⟨by kernel_rfl, ?_⟩) ?_
          · intro w'; go_simp
          refine wpAny_ready (rs := [0, 5]) (by kernel_rfl) (by simp) ?_
          refine AllReady.cons rfl (fun K hK => ?_) (AllReady.cons rfl (fun K hK => ?_) AllReady.nil)
          · go_simp
            refine hK _ _ ?_
            clear hK K
            refine wpAny_ready (rs := [5]) (by kernel_rfl) (by simp) ?_
            refine AllReady.cons rfl (fun K hK => ?_) AllReady.nil
            go_simp
            refine (HSp.out _ hS).mono ?_
            rintro r w2 ⟨rfl, hS2⟩
            have g1 := hS2.b1
            unfold ws sw at g1
            obtain ⟨g2, g3, g4, g5, -, -, -, -⟩ := cells4 g1
            refine hK _ _ ?_
            clear hK K
            refine wpAny_ready (rs := [6]) (by kernel_rfl) (by simp) ?_
            refine AllReady.cons rfl (fun K hK => ?_) AllReady.nil
            go_simp
            refine (HWi.out _ hS2).mono ?_
            rintro r w3 ⟨rfl, hS3⟩
            have z1 := hS3.b1
            unfold ws at z1
            obtain ⟨z2, z3, z4, z5, z6, z7, z8, z9⟩ := cells4 z1
            clear g2 g3 g4 g5 d0 d1 d2 d3
            refine hK _ _ ?_
            clear hK K
            refine wpAny_ready (rs := [7]) (by kernel_rfl) (by simp) ?_
            refine AllReady.cons rfl (fun K hK => ?_) AllReady.nil
            go_simp
            refine hK _ _ ?_
            clear hK K
            refine wpAny_done (by kernel_rfl) ?_ _
            have n0 := Lib.hid (hS3.put Q)
            clear z1 z2 z3 z4 z5 z6 z7 z8 z9 hS2 hS3
            unfold sw at n0
            generalize (((w3.setCell ⟨w.heap.size + 1, 0, none⟩ (.int .u64 (wj Q 0 : Nat))).setCell ⟨w.heap.size + 1, 1, none⟩ (.int .u64 (wj Q 1 : Nat))).setCell ⟨w.heap.size + 1, 2, none⟩ (.int .u64 (wj Q 2 : Nat))).setCell ⟨w.heap.size + 1, 3, none⟩ (.int .u64 (wj Q 3 : Nat)) = W5 at n0 ⊢
            go_wp2
            go_roundw
            case rel => exact ⟨_, m + 1, Q, rfl, by go_num, HMt.out, HRs, Lib.hid n0.out.b0, Lib.hid n0.out.b1, Lib.hid n0.out.bb⟩
            case measure => exact HMe.out
          · go_simp
            refine (HSp.out _ hS).mono ?_
            rintro r w2 ⟨rfl, hS2⟩
            have g1 := hS2.b1
            unfold ws sw at g1
            obtain ⟨g2, g3, g4, g5, -, -, -, -⟩ := cells4 g1
            refine hK _ _ ?_
            clear hK K
            refine wpAny_ready (rs := [0]) (by kernel_rfl) (by simp) ?_
            refine AllReady.cons rfl (fun K hK => ?_) AllReady.nil
            go_simp
            refine hK _ _ ?_
            clear hK K
            refine wpAny_ready (rs := [6]) (by kernel_rfl) (by simp) ?_
            refine AllReady.cons rfl (fun K hK => ?_) AllReady.nil
            go_simp
            refine (HWi.out _ hS2).mono ?_
            rintro r w3 ⟨rfl, hS3⟩
            have z1 := hS3.b1
            unfold ws at z1
            obtain ⟨z2, z3, z4, z5, z6, z7, z8, z9⟩ := cells4 z1
            clear g2 g3 g4 g5 d0 d1 d2 d3
            refine hK _ _ ?_
            clear hK K
            refine wpAny_ready (rs := [7]) (by kernel_rfl) (by simp) ?_
            refine AllReady.cons rfl (fun K hK => ?_) AllReady.nil
            go_simp
            refine hK _ _ ?_
            clear hK K
            refine wpAny_done (by kernel_rfl) ?_ _
            have n0 := Lib.hid (hS3.put Q)
            clear z1 z2 z3 z4 z5 z6 z7 z8 z9 hS2 hS3
            unfold sw at n0
            generalize (((w3.setCell ⟨w.heap.size + 1, 0, none⟩ (.int .u64 (wj Q 0 : Nat))).setCell ⟨w.heap.size + 1, 1, none⟩ (.int .u64 (wj Q 1 : Nat))).setCell ⟨w.heap.size + 1, 2, none⟩ (.int .u64 (wj Q 2 : Nat))).setCell ⟨w.heap.size + 1, 3, none⟩ (.int .u64 (wj Q 3 : Nat)) = W5 at n0 ⊢
            go_wp2
            go_roundw
            case rel => exact ⟨_, m + 1, Q, rfl, by go_num, HMt.out, HRs, Lib.hid n0.out.b0, Lib.hid n0.out.b1, Lib.hid n0.out.bb⟩
            case measure => exact HMe.out
        · have hn : ¬ (2 ≤ ((by8 t).drop 1).length ∧ ((by8 t).drop 1)[0]? = some 45 ∧ ((by8 t).drop 1)[1]? ≠ some 93) := by
            rintro ⟨g1, g2, g3⟩
            rw [List.length_drop, by8_length] at g1
            have k2 : 2 < t.size := by omega
            rw [List.getElem?_drop, by8_get (by omega)] at g2 g3
            exact hsp ⟨k2, by simpa using g2, fun h => g3 (by simpa using h)⟩
          rw [ha, mem_byte h93 hn, ← hfrom] at hres
          obtain ⟨Q, hQ⟩ : ∃ Q, (fun x => P x || spn t[0].toNat t[0].toNat x) = Q := ⟨_, rfl⟩
          have hmem : (fun x => P x || sp t[0].toNat t[0].toNat x) = Q := hQ
          rw [hmem] at hres
          have HSp := Lib.hid (fun w' (h : SecS w P w') => (span_any t[0].toNat t[0].toNat hlt0 hlt0 w').mono (R' := fun r w'' => r = .returned (sv (spn t[0].toNat t[0].toNat)) ∧ SecS w P w'') fun r w'' hq => ⟨hq.1, h.below hq.2⟩)
          have HWi := Lib.hid (fun w' (h : SecS w P w') => (with_any P (spn t[0].toNat t[0].toNat) w').mono (R' := fun r w'' => r = .returned (.agg #[.int .u64 (wj Q 0 : Nat), .int .u64 (wj Q 1 : Nat), .int .u64 (wj Q 2 : Nat), .int .u64 (wj Q 3 : Nat)]) ∧ SecS w P w'') fun r w'' hq => ⟨by rw [hq.1, hQ]; rfl, h.below hq.2⟩)
          have hS : SecS w P wr.drew := ⟨b0.out.drew, b1.out.drew, bb.out.drew⟩
          have HRs : Hid (mem (by8 (t.extract 1 t.size)) Q (decide (m + 1 ≠ 0)) = res) := Lib.hid (by rw [decide_eq_true (by omega : m + 1 ≠ 0)]; exact hres.out)
          have HMt : Hid (m + 1 + (t.extract 1 t.size).size ≤ 1000) := Lib.hid (by simp; omega)
          have HMe : Hid ((t.extract 1 t.size).size < t.size) := Lib.hid (by simp; omega)
          have hmI : (m : Int) ≤ 1000 := by omega
          have d9 := hS.b1
          unfold ws sw at d9
          obtain ⟨d0, d1, d2, d3, -, -, -, -⟩ := cells4 d9
          have hways : t.size ≤ 2 ∨ (∃ h : 2 < t.size, t[1].toNat ≠ 45) ∨ (∃ h : 2 < t.size, t[1].toNat = 45 ∧ t[2].toNat = 93) := by
            by_cases k1 : t.size ≤ 2
            · exact .inl k1
            · by_cases k2 : t[1].toNat = 45
              · by_cases k3 : t[2].toNat = 93
                · exact .inr (.inr ⟨by omega, k2, k3⟩)
                · exact absurd ⟨by omega, k2, k3⟩ hsp
              · exact .inr (.inl ⟨by omega, k2⟩)
          have i1 : (1 : Int) ≤ (t.size : Int) := by omega
          clear ha hlt0 h93 hmt hQ hmem hres d9 hn hsp
          rcases hways with k1 | ⟨k1, k2⟩ | ⟨k1, k2, k3⟩
          · have g1 : (t.size : Int) ≤ 2 := by omega
            clear k1
            go_wp2_with fail
            refine wp_region_any (by kernel_rfl) ?_
            refine wpAny_take (i := 1) (v := .string t) rfl (by kernel_rfl) (by kernel_rfl) (by kernel_rfl) (fun _ _ _ h => h) (Or.inl ⟨by kernel_rfl, ?_⟩) ?_
            · intro w'; go_simp
            refine wpAny_take (i := 3) (v := .string t) rfl (by kernel_rfl) (by kernel_rfl) (by kernel_rfl) (fun _ _ _ h => h) (Or.inl ⟨by kernel_rfl, ?_⟩) ?_
            · intro w'; go_simp
            refine wpAny_take (i := 2) (v := .int .u8 t[0].toNat) rfl (by kernel_rfl) (by kernel_rfl) (by kernel_rfl) (fun _ _ _ h => h) (Or.inl ⟨by kernel_rfl, ?_⟩) ?_
            · intro w'; go_simp
            refine wpAny_take (i := 4) (v := .int .u8 t[0].toNat) rfl (by kernel_rfl) (by kernel_rfl) (by kernel_rfl) (fun _ _ _ h => h) (Or.inl ⟨by kernel_rfl, ?_⟩) ?_
            · intro w'; go_simp
            refine wpAny_ready (rs := [0, 5]) (by kernel_rfl) (by simp) ?_
            refine AllReady.cons rfl (fun K hK => ?_) (AllReady.cons rfl (fun K hK => ?_) AllReady.nil)
            · go_simp
              refine hK _ _ ?_
              clear hK K
              refine wpAny_ready (rs := [5]) (by kernel_rfl) (by simp) ?_
              refine AllReady.cons rfl (fun K hK => ?_) AllReady.nil
              go_simp
              refine (HSp.out _ hS).mono ?_
              rintro r w2 ⟨rfl, hS2⟩
              have g1 := hS2.b1
              unfold ws sw at g1
              obtain ⟨g2, g3, g4, g5, -, -, -, -⟩ := cells4 g1
              refine hK _ _ ?_
              clear hK K
              refine wpAny_ready (rs := [6]) (by kernel_rfl) (by simp) ?_
              refine AllReady.cons rfl (fun K hK => ?_) AllReady.nil
              go_simp
              refine (HWi.out _ hS2).mono ?_
              rintro r w3 ⟨rfl, hS3⟩
              have z1 := hS3.b1
              unfold ws at z1
              obtain ⟨z2, z3, z4, z5, z6, z7, z8, z9⟩ := cells4 z1
              clear g2 g3 g4 g5 d0 d1 d2 d3
              refine hK _ _ ?_
              clear hK K
              refine wpAny_ready (rs := [7]) (by kernel_rfl) (by simp) ?_
              refine AllReady.cons rfl (fun K hK => ?_) AllReady.nil
              go_simp
              refine hK _ _ ?_
              clear hK K
              refine wpAny_done (by kernel_rfl) ?_ _
              have n0 := Lib.hid (hS3.put Q)
              clear z1 z2 z3 z4 z5 z6 z7 z8 z9 hS2 hS3
              unfold sw at n0
              generalize (((w3.setCell ⟨w.heap.size + 1, 0, none⟩ (.int .u64 (wj Q 0 : Nat))).setCell ⟨w.heap.size + 1, 1, none⟩ (.int .u64 (wj Q 1 : Nat))).setCell ⟨w.heap.size + 1, 2, none⟩ (.int .u64 (wj Q 2 : Nat))).setCell ⟨w.heap.size + 1, 3, none⟩ (.int .u64 (wj Q 3 : Nat)) = W5 at n0 ⊢
              go_wp2
              go_roundw
              case rel => exact ⟨_, m + 1, Q, rfl, by go_num, HMt.out, HRs, Lib.hid n0.out.b0, Lib.hid n0.out.b1, Lib.hid n0.out.bb⟩
              case measure => exact HMe.out
            · go_simp
              refine (HSp.out _ hS).mono ?_
              rintro r w2 ⟨rfl, hS2⟩
              have g1 := hS2.b1
              unfold ws sw at g1
              obtain ⟨g2, g3, g4, g5, -, -, -, -⟩ := cells4 g1
              refine hK _ _ ?_
              clear hK K
              refine wpAny_ready (rs := [0]) (by kernel_rfl) (by simp) ?_
              refine AllReady.cons rfl (fun K hK => ?_) AllReady.nil
              go_simp
              refine hK _ _ ?_
              clear hK K
              refine wpAny_ready (rs := [6]) (by kernel_rfl) (by simp) ?_
              refine AllReady.cons rfl (fun K hK => ?_) AllReady.nil
              go_simp
              refine (HWi.out _ hS2).mono ?_
              rintro r w3 ⟨rfl, hS3⟩
              have z1 := hS3.b1
              unfold ws at z1
              obtain ⟨z2, z3, z4, z5, z6, z7, z8, z9⟩ := cells4 z1
              clear g2 g3 g4 g5 d0 d1 d2 d3
              refine hK _ _ ?_
              clear hK K
              refine wpAny_ready (rs := [7]) (by kernel_rfl) (by simp) ?_
              refine AllReady.cons rfl (fun K hK => ?_) AllReady.nil
              go_simp
              refine hK _ _ ?_
              clear hK K
              refine wpAny_done (by kernel_rfl) ?_ _
              have n0 := Lib.hid (hS3.put Q)
              clear z1 z2 z3 z4 z5 z6 z7 z8 z9 hS2 hS3
              unfold sw at n0
              generalize (((w3.setCell ⟨w.heap.size + 1, 0, none⟩ (.int .u64 (wj Q 0 : Nat))).setCell ⟨w.heap.size + 1, 1, none⟩ (.int .u64 (wj Q 1 : Nat))).setCell ⟨w.heap.size + 1, 2, none⟩ (.int .u64 (wj Q 2 : Nat))).setCell ⟨w.heap.size + 1, 3, none⟩ (.int .u64 (wj Q 3 : Nat)) = W5 at n0 ⊢
              go_wp2
              go_roundw
              case rel => exact ⟨_, m + 1, Q, rfl, by go_num, HMt.out, HRs, Lib.hid n0.out.b0, Lib.hid n0.out.b1, Lib.hid n0.out.bb⟩
              case measure => exact HMe.out
          · have g0 : (2 : Int) < (t.size : Int) := by omega
            have g1 : ((t[1].toNat : Int) == 45) = false := by simp; omega
            clear k2
            go_wp2_with fail
            refine wp_region_any (by kernel_rfl) ?_
            refine wpAny_take (i := 1) (v := .string t) rfl (by kernel_rfl) (by kernel_rfl) (by kernel_rfl) (fun _ _ _ h => h) (Or.inl ⟨by kernel_rfl, ?_⟩) ?_
            · intro w'; go_simp
            refine wpAny_take (i := 3) (v := .string t) rfl (by kernel_rfl) (by kernel_rfl) (by kernel_rfl) (fun _ _ _ h => h) (Or.inl ⟨by kernel_rfl, ?_⟩) ?_
            · intro w'; go_simp
            refine wpAny_take (i := 2) (v := .int .u8 t[0].toNat) rfl (by kernel_rfl) (by kernel_rfl) (by kernel_rfl) (fun _ _ _ h => h) (Or.inl ⟨by kernel_rfl, ?_⟩) ?_
            · intro w'; go_simp
            refine wpAny_take (i := 4) (v := .int .u8 t[0].toNat) rfl (by kernel_rfl) (by kernel_rfl) (by kernel_rfl) (fun _ _ _ h => h) (Or.inl ⟨by kernel_rfl, ?_⟩) ?_
            · intro w'; go_simp
            refine wpAny_ready (rs := [0, 5]) (by kernel_rfl) (by simp) ?_
            refine AllReady.cons rfl (fun K hK => ?_) (AllReady.cons rfl (fun K hK => ?_) AllReady.nil)
            · go_simp
              refine hK _ _ ?_
              clear hK K
              refine wpAny_ready (rs := [5]) (by kernel_rfl) (by simp) ?_
              refine AllReady.cons rfl (fun K hK => ?_) AllReady.nil
              go_simp
              refine (HSp.out _ hS).mono ?_
              rintro r w2 ⟨rfl, hS2⟩
              have g1 := hS2.b1
              unfold ws sw at g1
              obtain ⟨g2, g3, g4, g5, -, -, -, -⟩ := cells4 g1
              refine hK _ _ ?_
              clear hK K
              refine wpAny_ready (rs := [6]) (by kernel_rfl) (by simp) ?_
              refine AllReady.cons rfl (fun K hK => ?_) AllReady.nil
              go_simp
              refine (HWi.out _ hS2).mono ?_
              rintro r w3 ⟨rfl, hS3⟩
              have z1 := hS3.b1
              unfold ws at z1
              obtain ⟨z2, z3, z4, z5, z6, z7, z8, z9⟩ := cells4 z1
              clear g2 g3 g4 g5 d0 d1 d2 d3
              refine hK _ _ ?_
              clear hK K
              refine wpAny_ready (rs := [7]) (by kernel_rfl) (by simp) ?_
              refine AllReady.cons rfl (fun K hK => ?_) AllReady.nil
              go_simp
              refine hK _ _ ?_
              clear hK K
              refine wpAny_done (by kernel_rfl) ?_ _
              have n0 := Lib.hid (hS3.put Q)
              clear z1 z2 z3 z4 z5 z6 z7 z8 z9 hS2 hS3
              unfold sw at n0
              generalize (((w3.setCell ⟨w.heap.size + 1, 0, none⟩ (.int .u64 (wj Q 0 : Nat))).setCell ⟨w.heap.size + 1, 1, none⟩ (.int .u64 (wj Q 1 : Nat))).setCell ⟨w.heap.size + 1, 2, none⟩ (.int .u64 (wj Q 2 : Nat))).setCell ⟨w.heap.size + 1, 3, none⟩ (.int .u64 (wj Q 3 : Nat)) = W5 at n0 ⊢
              go_wp2
              go_roundw
              case rel => exact ⟨_, m + 1, Q, rfl, by go_num, HMt.out, HRs, Lib.hid n0.out.b0, Lib.hid n0.out.b1, Lib.hid n0.out.bb⟩
              case measure => exact HMe.out
            · go_simp
              refine (HSp.out _ hS).mono ?_
              rintro r w2 ⟨rfl, hS2⟩
              have g1 := hS2.b1
              unfold ws sw at g1
              obtain ⟨g2, g3, g4, g5, -, -, -, -⟩ := cells4 g1
              refine hK _ _ ?_
              clear hK K
              refine wpAny_ready (rs := [0]) (by kernel_rfl) (by simp) ?_
              refine AllReady.cons rfl (fun K hK => ?_) AllReady.nil
              go_simp
              refine hK _ _ ?_
              clear hK K
              refine wpAny_ready (rs := [6]) (by kernel_rfl) (by simp) ?_
              refine AllReady.cons rfl (fun K hK => ?_) AllReady.nil
              go_simp
              refine (HWi.out _ hS2).mono ?_
              rintro r w3 ⟨rfl, hS3⟩
              have z1 := hS3.b1
              unfold ws at z1
              obtain ⟨z2, z3, z4, z5, z6, z7, z8, z9⟩ := cells4 z1
              clear g2 g3 g4 g5 d0 d1 d2 d3
              refine hK _ _ ?_
              clear hK K
              refine wpAny_ready (rs := [7]) (by kernel_rfl) (by simp) ?_
              refine AllReady.cons rfl (fun K hK => ?_) AllReady.nil
              go_simp
              refine hK _ _ ?_
              clear hK K
              refine wpAny_done (by kernel_rfl) ?_ _
              have n0 := Lib.hid (hS3.put Q)
              clear z1 z2 z3 z4 z5 z6 z7 z8 z9 hS2 hS3
              unfold sw at n0
              generalize (((w3.setCell ⟨w.heap.size + 1, 0, none⟩ (.int .u64 (wj Q 0 : Nat))).setCell ⟨w.heap.size + 1, 1, none⟩ (.int .u64 (wj Q 1 : Nat))).setCell ⟨w.heap.size + 1, 2, none⟩ (.int .u64 (wj Q 2 : Nat))).setCell ⟨w.heap.size + 1, 3, none⟩ (.int .u64 (wj Q 3 : Nat)) = W5 at n0 ⊢
              go_wp2
              go_roundw
              case rel => exact ⟨_, m + 1, Q, rfl, by go_num, HMt.out, HRs, Lib.hid n0.out.b0, Lib.hid n0.out.b1, Lib.hid n0.out.bb⟩
              case measure => exact HMe.out
          · have g0 : (2 : Int) < (t.size : Int) := by omega
            have g1 : ((t[1].toNat : Int) == 45) = true := by simp; omega
            have g9 : ((t[2].toNat : Int) != 93) = false := by simp; omega
            clear k2 k3
            go_wp2_with fail
            refine wp_region_any (by kernel_rfl) ?_
            refine wpAny_take (i := 1) (v := .string t) rfl (by kernel_rfl) (by kernel_rfl) (by kernel_rfl) (fun _ _ _ h => h) (Or.inl ⟨by kernel_rfl, ?_⟩) ?_
            · intro w'; go_simp
            refine wpAny_take (i := 3) (v := .string t) rfl (by kernel_rfl) (by kernel_rfl) (by kernel_rfl) (fun _ _ _ h => h) (Or.inl ⟨by kernel_rfl, ?_⟩) ?_
            · intro w'; go_simp
            refine wpAny_take (i := 2) (v := .int .u8 t[0].toNat) rfl (by kernel_rfl) (by kernel_rfl) (by kernel_rfl) (fun _ _ _ h => h) (Or.inl ⟨by kernel_rfl, ?_⟩) ?_
            · intro w'; go_simp
            refine wpAny_take (i := 4) (v := .int .u8 t[0].toNat) rfl (by kernel_rfl) (by kernel_rfl) (by kernel_rfl) (fun _ _ _ h => h) (Or.inl ⟨by kernel_rfl, ?_⟩) ?_
            · intro w'; go_simp
            refine wpAny_ready (rs := [0, 5]) (by kernel_rfl) (by simp) ?_
            refine AllReady.cons rfl (fun K hK => ?_) (AllReady.cons rfl (fun K hK => ?_) AllReady.nil)
            · go_simp
              refine hK _ _ ?_
              clear hK K
              refine wpAny_ready (rs := [5]) (by kernel_rfl) (by simp) ?_
              refine AllReady.cons rfl (fun K hK => ?_) AllReady.nil
              go_simp
              refine (HSp.out _ hS).mono ?_
              rintro r w2 ⟨rfl, hS2⟩
              have g1 := hS2.b1
              unfold ws sw at g1
              obtain ⟨g2, g3, g4, g5, -, -, -, -⟩ := cells4 g1
              refine hK _ _ ?_
              clear hK K
              refine wpAny_ready (rs := [6]) (by kernel_rfl) (by simp) ?_
              refine AllReady.cons rfl (fun K hK => ?_) AllReady.nil
              go_simp
              refine (HWi.out _ hS2).mono ?_
              rintro r w3 ⟨rfl, hS3⟩
              have z1 := hS3.b1
              unfold ws at z1
              obtain ⟨z2, z3, z4, z5, z6, z7, z8, z9⟩ := cells4 z1
              clear g2 g3 g4 g5 d0 d1 d2 d3
              refine hK _ _ ?_
              clear hK K
              refine wpAny_ready (rs := [7]) (by kernel_rfl) (by simp) ?_
              refine AllReady.cons rfl (fun K hK => ?_) AllReady.nil
              go_simp
              refine hK _ _ ?_
              clear hK K
              refine wpAny_done (by kernel_rfl) ?_ _
              have n0 := Lib.hid (hS3.put Q)
              clear z1 z2 z3 z4 z5 z6 z7 z8 z9 hS2 hS3
              unfold sw at n0
              generalize (((w3.setCell ⟨w.heap.size + 1, 0, none⟩ (.int .u64 (wj Q 0 : Nat))).setCell ⟨w.heap.size + 1, 1, none⟩ (.int .u64 (wj Q 1 : Nat))).setCell ⟨w.heap.size + 1, 2, none⟩ (.int .u64 (wj Q 2 : Nat))).setCell ⟨w.heap.size + 1, 3, none⟩ (.int .u64 (wj Q 3 : Nat)) = W5 at n0 ⊢
              go_wp2
              go_roundw
              case rel => exact ⟨_, m + 1, Q, rfl, by go_num, HMt.out, HRs, Lib.hid n0.out.b0, Lib.hid n0.out.b1, Lib.hid n0.out.bb⟩
              case measure => exact HMe.out
            · go_simp
              refine (HSp.out _ hS).mono ?_
              rintro r w2 ⟨rfl, hS2⟩
              have g1 := hS2.b1
              unfold ws sw at g1
              obtain ⟨g2, g3, g4, g5, -, -, -, -⟩ := cells4 g1
              refine hK _ _ ?_
              clear hK K
              refine wpAny_ready (rs := [0]) (by kernel_rfl) (by simp) ?_
              refine AllReady.cons rfl (fun K hK => ?_) AllReady.nil
              go_simp
              refine hK _ _ ?_
              clear hK K
              refine wpAny_ready (rs := [6]) (by kernel_rfl) (by simp) ?_
              refine AllReady.cons rfl (fun K hK => ?_) AllReady.nil
              go_simp
              refine (HWi.out _ hS2).mono ?_
              rintro r w3 ⟨rfl, hS3⟩
              have z1 := hS3.b1
              unfold ws at z1
              obtain ⟨z2, z3, z4, z5, z6, z7, z8, z9⟩ := cells4 z1
              clear g2 g3 g4 g5 d0 d1 d2 d3
              refine hK _ _ ?_
              clear hK K
              refine wpAny_ready (rs := [7]) (by kernel_rfl) (by simp) ?_
              refine AllReady.cons rfl (fun K hK => ?_) AllReady.nil
              go_simp
              refine hK _ _ ?_
              clear hK K
              refine wpAny_done (by kernel_rfl) ?_ _
              have n0 := Lib.hid (hS3.put Q)
              clear z1 z2 z3 z4 z5 z6 z7 z8 z9 hS2 hS3
              unfold sw at n0
              generalize (((w3.setCell ⟨w.heap.size + 1, 0, none⟩ (.int .u64 (wj Q 0 : Nat))).setCell ⟨w.heap.size + 1, 1, none⟩ (.int .u64 (wj Q 1 : Nat))).setCell ⟨w.heap.size + 1, 2, none⟩ (.int .u64 (wj Q 2 : Nat))).setCell ⟨w.heap.size + 1, 3, none⟩ (.int .u64 (wj Q 3 : Nat)) = W5 at n0 ⊢
              go_wp2
              go_roundw
              case rel => exact ⟨_, m + 1, Q, rfl, by go_num, HMt.out, HRs, Lib.hid n0.out.b0, Lib.hid n0.out.b1, Lib.hid n0.out.bb⟩
              case measure => exact HMe.out
end Go.Proofs.Ytaielamimkigmaa
