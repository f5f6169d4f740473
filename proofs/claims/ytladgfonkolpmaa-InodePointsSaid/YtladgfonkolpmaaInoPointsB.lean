/-
  The statement that of any page any pointer is told and set, or it is told why not, and that those that are not 0 are told in order: its walk.
-/
import Derived.Test.YtladgfonkolpmaaInoPts
import Derived.Sort.QuietTacIn
import Derived.Sort.BigQuietIn
import Derived.Stop.RegionWithIn
import Derived.Sort.CutIn
namespace Go.Proofs.Ytladgfonkolpmaa
open Go.RowKit Go.Shelf Crcm Tagm Inom Go.ChangeShapes

attribute [local go_sem] Oper.semAt_some

set_option maxRecDepth 100000 in
set_option maxHeartbeats 1000000 in
theorem inodePoints_long (a : Option Addr) (n cap : Nat) (K tv M : Int) (w : World) (h : 1500 < n) :
    Calls Try.prog 3 #[.slice a n cap, .int .i64 K, .int .i64 tv, .int .i64 M] w fun e w' => e = .returned (.bool true) ∧ Below w.heap.size w w' := by
  have HL := Lib.hid (fun w => ilong_yes a n cap w h)
  clear h
  go_enter Try.func3, Try.ntmps3
  go_wp2_with fail
  refine (HL.out _).mono ?_
  rintro e w' ⟨rfl, rfl⟩
  go_wp2_with fail
  refine (iknown_any _).mono ?_
  rintro e w' ⟨rfl, hb⟩
  go_wp2
  go_ret
  exact ⟨rfl, ((Below.refl _ _).alloc (Nat.le_refl _) _).trans (hb.mono (by simp))⟩

/-- what Pointers hands back, of any page: a function over two blocks, and what it hands on -/
def PtsOf (l : List Int) (w : World) (e : Ending) (w' : World) : Prop := ∃ Bn b, e = .returned (.func (.func 48) #[] #[.pointer (some ⟨Bn, 0, none⟩)]) ∧ Bn < w'.heap.size ∧ b < w'.heap.size ∧ w.heap.size ≤ Bn ∧ w.heap.size ≤ b ∧
  SeqStopsK Fence.wide 4 Try.prog 48 #[.pointer (some ⟨Bn, 0, none⟩)] (fun x : Int × Int => #[Value.int .i64 x.1, Value.int .i64 x.2]) (KB Bn b) (fun ys => ys = pl l) (fun pre => pre <+: pl l) (pl l).length w' ∧ Below w.heap.size w w'

theorem own_at {w : World} {base n c : Nat} {a : Option Addr} {xs : List Value} {e : TypeId} (h : w.ownsRow base e 1 (.slice a n c) n xs) (j : Nat) (hj : j < n) : ∃ g, a = some ⟨g, 0, none⟩ ∧ g < w.heap.size ∧ w.cell? ⟨g, j, none⟩ = xs[j]? := by
  have h2 := h.2
  rcases h2 with ⟨h', h0⟩ | ⟨g, cap, cur, h', _⟩
  · simp at h'; omega
  · injection h' with e1 e2 e3
    subst e1
    exact ⟨g, rfl, (h.lt g rfl).2, h.cellAt j (by simpa using hj)⟩

theorem own_form1 {w : World} {base k : Nat} {v : Value} {xs : List Value} {e : TypeId} (h : w.ownsRow base e 1 v k xs) : ∃ a c, v = .slice a k c := by
  rcases h.2 with ⟨rfl, rfl⟩ | ⟨g, cap, cur, rfl, _⟩
  · exact ⟨none, 0, rfl⟩
  · exact ⟨_, cap, rfl⟩

theorem pref_at {P p s : List (Int × Int)} {x : Int × Int} {mj : Nat} (h1 : P ++ [x] <+: p) (h2 : s <+: p) (h3 : p = s ∨ s.length = mj) (h4 : P.length < mj) : P.length < s.length ∧ s[P.length]? = some x := by
  have hl : P.length + 1 ≤ s.length := by
    rcases h3 with rfl | h3
    · have := h1.length_le; simpa using this
    · omega
  refine ⟨by omega, ?_⟩
  obtain ⟨u, hu⟩ := h1
  obtain ⟨v, hv⟩ := h2
  have e : (s ++ v)[P.length]? = (P ++ [x] ++ u)[P.length]? := by rw [hu, hv]
  rw [List.getElem?_append_left (by omega)] at e
  rw [e, List.append_assoc, List.getElem?_append_right (Nat.le_refl _)]
  simp
theorem pref_end {P p s : List (Int × Int)} {mj : Nat} (h1 : P <+: p) (h2 : s <+: p) (h3 : p = s ∨ s.length = mj) (h5 : s.length ≤ mj) (h4 : P.length ≤ mj) (h6 : P = p ∨ P.length = mj) : P.length = s.length := by
  have a := h1.length_le
  have b := h2.length_le
  rcases h6 with rfl | h6
  · rcases h3 with rfl | h3
    · rfl
    · omega
  · rcases h3 with rfl | h3
    · omega
    · omega

set_option maxRecDepth 100000 in
set_option maxHeartbeats 40000000 in
theorem inodePoints_short (a : Option Addr) (cap : Nat) (l : List Int) (K tv M : Int) (w : World) (h : l.length ≤ 1500) (hr : Rw w a l) (hc : l.length ≤ cap) (hM0 : -9223372036854775808 ≤ M) (hM1 : M ≤ 9223372036854775807)
    (HPts : ∀ w', Below w.heap.size w w' → Calls Try.prog 17 #[.slice a l.length cap] w' (PtsOf l w')) :
    Calls Try.prog 3 #[.slice a l.length cap, .int .i64 K, .int .i64 tv, .int .i64 M] w fun e w' => e = .returned (.bool true) ∧ Below w.heap.size w w' := by
  obtain ⟨mj, hmj, hAm⟩ := among_int M 300 300 rfl hM0 hM1 (by omega) (by omega)
  have HA := Lib.hid hAm
  have HA2 := Lib.hid (fun w => (hAm w).mono fun e w' (h : e = _ ∧ w = w') => (⟨h.1, h.2.symm⟩ : e = .returned (.int .i64 (mj : Int)) ∧ w' = w))
  have HPT := Lib.hid HPts
  have HL := Lib.hid (fun w => ilong_no a l.length cap w h)
  have HP1 := Lib.hid (fun w hq => ipointer_all a l.length cap K l w hq rfl hc)
  have HP2 := Lib.hid (fun w hq => irefpointer_all a l.length cap K l w hq rfl hc (by omega))
  have HQ1 := Lib.hid (fun w hq => ipoint_all a cap K tv l w hq)
  have HQ2 := Lib.hid (fun w hq => irefpoint_all a cap K tv l w hq hc (by omega))
  have HR := Lib.hid hr
  have HLen := Lib.hid h
  have HCap := Lib.hid hc
  clear h hc hr hAm HPts hM0 hM1
  generalize pN l K = x1 at HP1 HP2
  generalize pE l K = x2 at HP1 HP2
  obtain ⟨bb, hbb⟩ : ∃ bb, ptB l K tv = bb := ⟨_, rfl⟩
  rw [hbb] at HQ1 HQ2
  generalize ptE l K tv = x3 at HQ1 HQ2
  clear hbb
  have B0 : Hid (Below w.heap.size w (w.alloc (.cells #[.int .i64 M] 3))) := Lib.hid ((Below.refl _ _).alloc (Nat.le_refl _) _)
  have M0 : Hid (Blk (w.alloc (.cells #[.int .i64 M] 3)) w.heap.size 3 #[.int .i64 M]) := Lib.hid (Blk.new w _ _)
  refine (callsIn_wide (n := 5)).1 ?_
  refine callsIn_of_wp_marks Try.func3 rfl trivial ?_ rfl
  simp only [Try.ntmps3, List.size_toArray, List.length_cons, List.length_nil, Nat.reduceAdd, Nat.reduceSub, Array.replicate_succ, Array.replicate_zero, List.push_toArray, List.append_toArray, List.nil_append, List.cons_append]
  refine wpIn_wide.2 ?_
  go_wp2_with fail
  refine (HL.out _).mono ?_
  rintro e w' ⟨rfl, rfl⟩
  go_wp2_with fail
  refine (HP1.out _ (HR.out.below B0.out)).mono ?_
  rintro e w' ⟨rfl, rfl⟩
  go_wp2_with fail
  refine (HP2.out _ (HR.out.below B0.out)).mono ?_
  rintro e w' ⟨rfl, rfl⟩
  go_wp2_with fail
  refine (HQ1.out _ (HR.out.below B0.out)).mono ?_
  rintro e w1 ⟨⟨X, cx, rfl, hX⟩, hb1⟩
  have B1 := Lib.hid (B0.out.trans (hb1.mono B0.out.size))
  have M1 := Lib.hid (M0.out.below hb1 M0.out.lt)
  have HX := Lib.hid hX
  clear hb1 hX HQ1 HP1 HP2 HL
  go_wp2_with fail
  refine (HQ2.out _ (HR.out.below B1.out)).mono ?_
  rintro e w2 ⟨⟨Y, cy, rfl, hY⟩, hb2⟩
  have B2 := Lib.hid (B1.out.trans (hb2.mono B1.out.size))
  have M2 := Lib.hid (M1.out.below hb2 M1.out.lt)
  have hS := same_any X Y cx cy bb.length bb.length bb bb w2 (HX.out.below hb2) hY rfl rfl
  rw [decide_eq_true rfl] at hS
  have HS := Lib.hid hS
  clear hb2 hY hS HQ2 B1 M1 HX B0 M0
  go_wp2_with fail
  refine HS.out.mono ?_
  rintro e w' ⟨rfl, rfl⟩
  have b3 := ((B2.out.alloc B2.out.size (.cells #[.slice none 0 0] 31)).alloc (Nat.le_trans B2.out.size (by simp)) (.cells #[.slice none 0 0] 31))
  have B3 := Lib.hid b3
  have M3 := Lib.hid ((M2.out.alloc (.cells #[.slice none 0 0] 31)).alloc (.cells #[.slice none 0 0] 31))
  have bO := Boxed.new w2 31 (.slice none 0 0)
  have bE := Boxed.new (w2.alloc (.cells #[.slice none 0 0] 31)) 31 (.slice none 0 0)
  rw [World.size_alloc] at bE
  have BO := Lib.hid (bO.alloc (.cells #[.slice none 0 0] 31))
  have BE := Lib.hid bE
  have hsz : w.heap.size + 1 ≤ w2.heap.size := M2.out.lt
  have HSZ := Lib.hid hsz
  clear b3 bO bE hsz B2 M2 HS
  go_wp2_with fail
  refine (HPT.out _ B3.out).mono ?_
  rintro e w4 ⟨Bn, b, rfl, hBn, hb, hBn1, hb1, hseq, hb4⟩
  have B4 := Lib.hid (B3.out.trans (hb4.mono B3.out.size))
  have M4 := Lib.hid (M3.out.below hb4 M3.out.lt)
  have BO4 : Hid (Boxed w4 w2.heap.size 31 (.slice none 0 0)) := Lib.hid ((hb4.block _ BO.out.lt).trans BO.out)
  have BE4 : Hid (Boxed w4 (w2.heap.size + 1) 31 (.slice none 0 0)) := Lib.hid ((hb4.block _ BE.out.lt).trans BE.out)
  have HSeq := Lib.hid hseq
  simp at hBn1 hb1
  clear hb4 hseq B3 M3 BO BE
  have hnf : ∀ w, (binOp .eql 33 (.func (.func 48) #[] #[.pointer (some ⟨Bn, 0, none⟩)]) .nilFunc).run Try.prog w = .ok (.bool false) w := fun w => by kernel_rfl
  go_wp2_with fail
  have hn4 : w.heap.size + 1 ≤ w4.heap.size := Nat.le_trans HSZ.out (by have := BE4.out.lt; omega)
  refine (wpIn_wide (n := 5)).1 ?_
  refine wpIn_rangeFunc_ownG rfl (by omega) (gf := 48) (lb := #[.pointer (some ⟨Bn, 0, none⟩)]) rfl trivial (enters_of Try.func48 (by kernel_rfl) rfl)
    HSeq.out KB.trans (fun W y o o' hy ho _ _ => ⟨World.putObj_heap_other (by omega), World.putObj_heap_other (by omega)⟩) (Below.refl _ _) (fun _ => rfl)
    (fun pre W => Two w4.heap.size w2.heap.size (w2.heap.size + 1) pre W ∧ pre.length ≤ mj ∧ Below (w.heap.size + 1) w4 W)
    (fun c pre W => (c = .exit 0 ∧ pre.dropLast.length = mj) ∧ Two w4.heap.size w2.heap.size (w2.heap.size + 1) pre.dropLast W ∧ Below (w.heap.size + 1) w4 W)
    (OwnFrom.and (Own.from (two_own w4.heap.size w2.heap.size (w2.heap.size + 1) fun s : List (Int × Int) => s) _) (OwnFrom.and (ownFrom_pure _ _) (ownFrom_below hn4 hn4)))
    (fun c => OwnFrom.and (ownFrom_pure _ _) (OwnFrom.and (Own.from (two_own w4.heap.size w2.heap.size (w2.heap.size + 1) fun s : List (Int × Int) => s.dropLast) _) (ownFrom_below hn4 hn4)))
    ⟨⟨_, _, BO4.out, World.ownsRow_nil _ _ _ _, BE4.out, World.ownsRow_nil _ _ _ _, fun r e => by simp [Value.ownBlock] at e⟩, by simp, Below.refl _ _⟩
    (fun x => { tmps := #[.slice a l.length cap, .int .i64 K, .int .i64 tv, .int .i64 M, undef, undef, undef, .pointer (some ⟨w.heap.size, 0, none⟩), .bool false, .int .i64 x1, .int .i64 x2, .int .i64 x1, .int .i64 x2, .slice X bb.length cx, .int .i64 x3, .slice Y bb.length cy, .int .i64 x3, .pointer (some ⟨w2.heap.size, 0, none⟩), .pointer (some ⟨w2.heap.size + 1, 0, none⟩), .func (.func 48) #[] #[.pointer (some ⟨Bn, 0, none⟩)], .int .i64 x.1, .int .i64 x.2, undef, undef, undef, .slice a l.length cap, .bool false, undef, .tuple #[.int .i64 x1, .int .i64 x2], .slice a l.length cap, .int .i64 K, .tuple #[.int .i64 x1, .int .i64 x2], .int .i64 x1, .int .i64 x2, .tuple #[.int .i64 x1, .int .i64 x2], .slice a l.length cap, .int .i64 K, .tuple #[.int .i64 x1, .int .i64 x2], .int .i64 x1, .int .i64 x2, .tuple #[.slice X bb.length cx, .int .i64 x3], .slice a l.length cap, .int .i64 K, .int .i64 tv, .tuple #[.slice X bb.length cx, .int .i64 x3], .slice X bb.length cx, .int .i64 x3, .tuple #[.slice Y bb.length cy, .int .i64 x3], .slice a l.length cap, .int .i64 K, .int .i64 tv, .tuple #[.slice Y bb.length cy, .int .i64 x3], .slice Y bb.length cy, .int .i64 x3, .int .i64 x1, .int .i64 x1, .bool false, .bool false, .int .i64 x2, .int .i64 x2, .bool false, .bool false, .bool false, .slice X bb.length cx, .slice Y bb.length cy, .bool true, .bool false, .bool false, .bool false, .int .i64 x3, .int .i64 x3, .bool false, .bool false, .slice a l.length cap, .func (.func 48) #[] #[.pointer (some ⟨Bn, 0, none⟩)], .func (.func 48) #[] #[.pointer (some ⟨Bn, 0, none⟩)], .bool false, .func (.func 48) #[] #[.pointer (some ⟨Bn, 0, none⟩)], .int .i64 x.1, .int .i64 x.2, undef, undef, undef, undef, undef, undef, undef, undef, undef, undef, undef, undef, undef, undef, undef, undef, undef, undef, undef, undef, undef, undef, undef, undef, undef, undef, undef, undef, undef, undef, undef, undef, undef, undef, undef, undef, undef, undef, undef, undef, undef, undef, undef, undef, undef, undef, undef, undef, undef, undef, undef, undef, undef, undef, undef, undef, undef, undef, undef, undef, undef, undef, undef, undef, undef, undef, undef, undef, undef, undef, undef], defers := [] }) ?assign ?body ?done ?stop
  case assign =>
    intro y x W K hK
    gi_wp2
    exact hK
  case body =>
    rintro y pre x W ⟨⟨v1, v2, hb1, hr1, hb2, hr2, hD⟩, hlen, hB⟩ hlt
    obtain ⟨i0, hi, hz0, hz1, hz2⟩ := info_parts Try.info3
    obtain ⟨a1, q1, rfl⟩ := own_form1 hr1
    obtain ⟨a2, q2, rfl⟩ := own_form1 hr2
    have hc1 := hb1.cell
    have hm : W.cell? ⟨w.heap.size, 0, none⟩ = some (.int .i64 M) := (hB.cell (p := ⟨w.heap.size, 0, none⟩) (Nat.lt_succ_self _)).trans (M4.out.cell 0)
    have H1 := Lib.hid hb1
    have H2 := Lib.hid hb2
    have R1 := Lib.hid hr1
    have R2 := Lib.hid hr2
    have HD := Lib.hid hD
    have HBl := Lib.hid hB
    have HLn := Lib.hid hlen
    clear hb1 hb2 hr1 hr2 hD hB hlen hlt
    by_cases he : pre.length = mj
    · have t1 : ((pre.length : Int) == (mj : Int)) = true := by simp; omega
      have HE := Lib.hid he
      clear he
      gi_wp2_with fail
      gi_region_with ((refine ⟨trivial, ?_⟩; gi_at_call 18; refine (CallsIn.inRound y (callsIn_wide.2 (HA.out _))).mono ?_; rintro e w' ⟨rfl, rfl⟩))
      all_goals gi_wp2
      all_goals
        refine ⟨⟨Nat.le_refl _, fun k o _ hk _ => hk⟩, ⟨rfl, by rw [List.dropLast_concat]; exact HE.out⟩, ?_, HBl.out.drew⟩
        rw [List.dropLast_concat]
        exact ⟨_, _, H1.out, R1.out, H2.out, R2.out, HD.out⟩
    · have t1 : ((pre.length : Int) == (mj : Int)) = false := by simp; omega
      have HE : Hid (pre.length + 1 ≤ mj) := Lib.hid (by have := HLn.out; omega)
      have h300 : pre.length ≤ 300 := by have := HLn.out; omega
      have hWs : w4.heap.size ≤ W.heap.size := HBl.out.size
      clear he
      gi_wp2_with fail
      gi_region_with ((refine ⟨trivial, ?_⟩; gi_at_call 18; refine (CallsIn.inRound y (callsIn_wide.2 (HA.out _))).mono ?_; rintro e w' ⟨rfl, rfl⟩))
      all_goals
        have D1 : Boxed W.drew w2.heap.size 31 (.slice a1 pre.length q1) := H1.out
        have D2 : Boxed W.drew (w2.heap.size + 1) 31 (.slice a2 pre.length q2) := H2.out
        have E1 : W.drew.ownsRow w4.heap.size 3 1 (.slice a1 pre.length q1) pre.length (pre.map fun p => Value.int .i64 p.1) := R1.out
        have E2 : W.drew.ownsRow w4.heap.size 3 1 (.slice a2 pre.length q2) pre.length (pre.map fun p => Value.int .i64 p.2) := R2.out
        have hWd : w4.heap.size ≤ W.drew.heap.size := hWs
        have hz5 : W.drew.heap.size = W.heap.size := rfl
        have HD1 := Lib.hid D1
        have HD2 := Lib.hid D2
        have HE1 := Lib.hid E1
        have HE2 := Lib.hid E2
        clear D1 D2 E1 E2
        gi_upto_region 18 with ((gi_at_builtin; go_loud (refine wpListIn_append_own_at _ rfl (.tmp 85) (.tmp 87) 31 rfl w4.heap.size 3 i0 (.int .i64 0) 1 8 Try.underlying31 hi hz0 hz1 hz2 rfl (by decide) _ _ _ rfl (show (W.alloc (.cells #[.int .i64 x.1] 3)).drew.ownsRow w4.heap.size 3 1 (.slice a1 pre.length q1) pre.length _ from (R1.out.alloc (.cells #[.int .i64 x.1] 3))) ⟨W.heap.size, 0, none⟩ 1 1 [.int .i64 x.1] rfl rfl (cell_one_new _ _ _) (by simp [Value.oneCell']) (by unfold maxLen; omega) (by omega) (by simp; omega) ?_; intro v1' w5 hown1 hg1 _ hl1; obtain ⟨g', cap', rfl⟩ := ownsRow_succ hown1; have hg1' : (W.alloc (.cells #[.int .i64 x.1] 3)).grownBy w5 (Value.slice a1 pre.length q1).ownBlock := ⟨hg1.os, hg1.tape, hg1.output, hg1.size, hg1.block⟩; obtain ⟨k1, k2, k3, k4, k5, k6, k7, k8, k9⟩ := box_step H1.out R1.out H2.out R2.out HD.out (by omega) (by have := BE4.out.lt; omega) hWs hown1 hg1' hl1; have s1 := k1.cell; have s2 := k1.frozen)))
        clear hg1 hg1' hown1 s1 s2 k1
        generalize w5.setCell ⟨w2.heap.size, 0, none⟩ (.slice (some ⟨g', 0, none⟩) (pre.length + 1) cap') = W6 at k2 k3 k4 k5 k7 k8 k9 ⊢
        have c4 := k4.cell
        gi_wp2_with ((gi_at_builtin; go_loud (refine wpListIn_append_own_at _ rfl (.tmp 89) (.tmp 91) 31 rfl w4.heap.size 3 i0 (.int .i64 0) 1 8 Try.underlying31 hi hz0 hz1 hz2 rfl (by decide) _ _ _ rfl (show (W6.alloc (.cells #[.int .i64 x.2] 3)).drew.ownsRow w4.heap.size 3 1 (.slice a2 pre.length q2) pre.length _ from (k5.alloc (.cells #[.int .i64 x.2] 3))) ⟨W6.heap.size, 0, none⟩ 1 1 [.int .i64 x.2] rfl rfl (cell_one_new _ _ _) (by simp [Value.oneCell']) (by unfold maxLen; omega) (by omega) (by have := k7.size; simp; omega) ?_; intro v2' w7 hown2 hg2 _ hl2; obtain ⟨g2', cap2', rfl⟩ := ownsRow_succ hown2; have hg2' : (W6.alloc (.cells #[.int .i64 x.2] 3)).grownBy w7 (Value.slice a2 pre.length q2).ownBlock := ⟨hg2.os, hg2.tape, hg2.output, hg2.size, hg2.block⟩; obtain ⟨m1, m2, m3, m4, m5, m6, m7, m8, m9⟩ := box_step k4 k5 k2 k3 (fun r e e' => k6 r e' e) (by omega) BE4.out.lt (by have := k7.size; omega) hown2 hg2' hl2; have s1 := m1.cell; have s2 := m1.frozen)))
        all_goals
          have e1 : (pre ++ [x]).length = pre.length + 1 := by simp
          have e2 : (pre ++ [x]).map (fun p => Value.int .i64 p.1) = pre.map (fun p => Value.int .i64 p.1) ++ [Value.int .i64 x.1] := by simp
          have e3 : (pre ++ [x]).map (fun p => Value.int .i64 p.2) = pre.map (fun p => Value.int .i64 p.2) ++ [Value.int .i64 x.2] := by simp
          exact ⟨(k7.trans m7).from _, ⟨(m8 Bn hBn (by omega)).trans (k8 Bn hBn (by omega)), (m8 b hb (by omega)).trans (k8 b hb (by omega))⟩,
            ⟨_, _, m4, by rw [e1, e2]; exact m5, m2, by rw [e1, e3]; exact m3, fun r e e' => m6 r e' e⟩, by rw [e1]; exact HE.out,
            (HBl.out.trans ((k9.mono HSZ.out).trans (m9.mono (Nat.le_succ_of_le HSZ.out))))⟩
  case done =>
    rintro D s W hD rfl ⟨⟨v1, v2, hb1, hr1, hb2, hr2, -⟩, hlen, hB⟩ hK
    obtain ⟨a1, q1, rfl⟩ := own_form1 hr1
    obtain ⟨a2, q2, rfl⟩ := own_form1 hr2
    have H1 := Lib.hid hb1
    have H2 := Lib.hid hb2
    have R1 := Lib.hid hr1
    have R2 := Lib.hid hr2
    have HBl := Lib.hid hB
    have HLn := Lib.hid hlen
    have HK := Lib.hid hK
    have HD := Lib.hid hD
    clear hb1 hb2 hr1 hr2 hB hlen hK hD HSeq
    obtain ⟨s, hs0⟩ : ∃ s, pl l = s := ⟨_, rfl⟩
    have HF : Hid (s <+: pl l) := Lib.hid (by rw [hs0]; exact List.prefix_refl _)
    have HG : Hid (pl l = s ∨ s.length = mj) := Lib.hid (.inl hs0)
    rw [hs0] at H1 H2 R1 R2 HLn
    clear hs0
    have HKl : Hid (D < W.heap.size) := Lib.hid (lt_of_block HK.out)
    have HB0 : Hid (Below w.heap.size w W) := Lib.hid (B4.out.trans (HBl.out.mono (Nat.le_succ _)))
    have HBz : Hid (w.heap.size ≤ W.heap.size) := Lib.hid HB0.out.size
    have HB4z : Hid (w.heap.size ≤ w4.heap.size) := Lib.hid B4.out.size
    have hm : W.cell? ⟨w.heap.size, 0, none⟩ = some (.int .i64 M) := (HBl.out.cell (p := ⟨w.heap.size, 0, none⟩) (Nat.lt_succ_self _)).trans (M4.out.cell 0)
    have HM := Lib.hid hm
    have HC1 := Lib.hid H1.out.cell
    have HC2 := Lib.hid H2.out.cell
    have HL1 : Hid (w2.heap.size + 1 < W.heap.size) := Lib.hid H2.out.lt
    have HL0 : Hid (w.heap.size < W.heap.size) := Lib.hid (by have := HL1.out; have := HSZ.out; omega)
    clear hm
    by_cases hs : Sz l.length
    · have h64 : 64 ≤ l.length ∧ l.length ≤ 512 := by unfold Sz at hs; omega
      have hrW : Rw W a l := HR.out.below HB0.out
      obtain ⟨b', off', rfl⟩ := hrW.addr (by omega)
      have HRW := Lib.hid hrW
      have HSd := Lib.hid (fun w => irefsized_yes l.length w hs)
      have HPl : Hid (pl l = plT l (l.length / 2)) := Lib.hid (by unfold pl; rw [if_pos hs])
      clear hrW hs
      go_upto_region 21 with fail
      go_loopw [22, 23] (fun n i wr => ∃ k : Nat, k ≤ l.length / 2 ∧ i = .int .i64 k ∧ n = .int .i64 ((plT l k).length : Nat) ∧ (plT l k).length ≤ mj ∧ Hid (Below W.heap.size W wr)) (fun _ i _ => l.length / 2 - (intOf i).toNat)
      case atStart => exact ⟨0, by omega, rfl, rfl, by simp [plT], Lib.hid (Below.refl _ _)⟩
      case round =>
        obtain ⟨k, hk, rfl, rfl, hle, E⟩ := hrel
        have hm := (E.out.cell (p := ⟨w.heap.size, 0, none⟩) HL0.out).trans HM.out
        have hc1 := (E.out.cell (p := ⟨w2.heap.size, 0, none⟩) (Nat.lt_of_succ_lt HL1.out)).trans HC1.out
        have hc2 := (E.out.cell (p := ⟨w2.heap.size + 1, 0, none⟩) HL1.out).trans HC2.out
        by_cases hlt : k < l.length / 2
        · have hk2 : 2 * k + 2 ≤ l.length := by omega
          have hlti : (k : Int) < (l.length : Int) / 2 := by omega
          by_cases hlm : (plT l k).length < mj
          · have hq : Rw wr (some ⟨b', off' + 2 * k, none⟩) ((l.drop (2 * k)).take 2) := ((HRW.out.below E.out).drop (2 * k) (a' := some ⟨b', off' + 2 * k, none⟩) (fun b' off' e _ => by injection e with e; injection e with e1 e2; subst e1 e2; rfl)).take 2
            have hu := nat_U (l := l) (p := 2 * k) (n := 2) HRW.out.1 (by omega)
            have HN := Lib.hid (num_len (cap := cap - 2 * k) (v := nat_ l (2 * k) 2) hq (m := 2) (by rw [List.length_take, List.length_drop]; omega) (by omega) rfl)
            have hcut := cut_at b' off' l.length cap (2 * k) (2 * k + 2) 2 (2 * (k : Int)) (2 * (k : Int) + 2) (by omega) (by omega) (by omega) (by have := HCap.out; omega) (by omega)
            have HStep : Hid (plT l (k + 1) = if nat_ l (2 * k) 2 = 0 then plT l k else plT l k ++ [((k : Int), nat_ l (2 * k) 2)]) := Lib.hid (by rw [Nat.mul_comm 2 k]; rfl)
            have HPre : Hid (plT l (k + 1) <+: pl l) := Lib.hid (by rw [HPl.out]; exact plT_pre l hlt)
            generalize nat_ l (2 * k) 2 = v at HN HStep hu
            have hw : IntKind.i64.wrap v = v := IntWalk.i64_in _ (by omega)
            clear hq
            by_cases hv : v = 0
            · subst hv
              have HS2 : Hid (plT l (k + 1) = plT l k) := Lib.hid (by rw [HStep.out, if_pos rfl])
              go_wp2_with (first | (go_at_call 19; refine (HSd.out _).mono ?_; rintro e w' ⟨rfl, rfl⟩) | (go_at_call 18; refine (HA.out _).mono ?_; rintro e w' ⟨rfl, rfl⟩) | (go_at_call 20; go_loud (refine HN.out.mono ?_); rintro e w' ⟨rfl, rfl⟩))
              go_roundw
              case rel => exact ⟨k + 1, by omega, by go_num, by rw [HS2.out], by rw [HS2.out]; omega, E⟩
              case measure => simp [intOf]; omega
            · have HS2 : Hid (plT l (k + 1) = plT l k ++ [((k : Int), v)]) := Lib.hid (by rw [HStep.out, if_neg hv])
              obtain ⟨hns, hat⟩ := pref_at (by rw [← HS2.out]; exact HPre.out) HF.out HG.out hlm
              have HS3 : Hid ((plT l (k + 1)).length = (plT l k).length + 1) := Lib.hid (by rw [HS2.out, List.length_append]; rfl)
              have hn3 : (plT l k).length ≤ 300 := by omega
              generalize (plT l k).length = nn at hns hat hlm HS3 hn3 ⊢
              obtain ⟨g1, hg1, hgl1, ha1⟩ := own_at R1.out nn hns
              obtain ⟨g2, hg2, hgl2, ha2⟩ := own_at R2.out nn hns
              rw [List.getElem?_map, hat] at ha1 ha2
              simp only [Option.map_some] at ha1 ha2
              subst hg1 hg2
              have l1 := (E.out.cell (p := ⟨g1, nn, none⟩) hgl1).trans ha1
              have l2 := (E.out.cell (p := ⟨g2, nn, none⟩) hgl2).trans ha2
              have hnsi : (nn : Int) < (s.length : Int) := by omega
              have hv1 : ((v : Int) == 0) = false := by simp [hv]
              clear ha1 ha2 hat
              go_wp2_with (first | (go_at_call 19; refine (HSd.out _).mono ?_; rintro e w' ⟨rfl, rfl⟩) | (go_at_call 18; refine (HA.out _).mono ?_; rintro e w' ⟨rfl, rfl⟩) | (go_at_call 20; go_loud (refine HN.out.mono ?_); rintro e w' ⟨rfl, rfl⟩))
              go_roundw
              case rel => exact ⟨k + 1, by omega, by go_num, by rw [HS3.out]; go_num, by rw [HS3.out]; omega, E⟩
              case measure => simp [intOf]; omega
          · have hEn : (plT l k).length = s.length := pref_end (by rw [HPl.out]; exact plT_pre l hk) HF.out HG.out HLn.out hle (.inr (by omega))
            have hmi : ¬ ((plT l k).length : Int) < (mj : Int) := by omega
            have hs300 : s.length ≤ 300 := by omega
            generalize (plT l k).length = nn at hEn hmi hlm hle ⊢
            subst hEn
            go_wp2_with (first | (go_at_call 19; refine (HSd.out _).mono ?_; rintro e w' ⟨rfl, rfl⟩) | (go_at_call 18; refine (HA.out _).mono ?_; rintro e w' ⟨rfl, rfl⟩) | fail)
            refine (iknown_any _).mono ?_
            rintro e w' ⟨rfl, hb⟩
            go_wp2
            have hK' := (hb.block _ (by have := HKl.out; have := E.out.size; omega)).trans ((E.out.block _ HKl.out).trans HK.out)
            refine ⟨by simp, .inl ⟨_, _, rfl, run_takeDeferred hK', ?_⟩⟩
            refine ⟨.bool true, by simp [results, Try.results3, go_sem], ?_⟩
            exact ⟨rfl, (HB0.out.trans ((E.out.mono HBz.out).trans (hb.mono (by have := E.out.size; have := HBz.out; omega)))).trans (belowK_b (w := w) (Nat.le_refl _) w' D _ _ (by have := HD.out; have := HB4z.out; omega) hK' rfl rfl)⟩
        · have hkk : k = l.length / 2 := by omega
          have hEn : (plT l k).length = s.length := pref_end (by rw [HPl.out]; exact plT_pre l hk) HF.out HG.out HLn.out hle (.inl (by rw [HPl.out, hkk]))
          have hki : ¬ (k : Int) < (l.length : Int) / 2 := by omega
          have hs300 : s.length ≤ 300 := by omega
          generalize (plT l k).length = nn at hEn hle ⊢
          subst hEn
          go_wp2_with (first | (go_at_call 19; refine (HSd.out _).mono ?_; rintro e w' ⟨rfl, rfl⟩) | (go_at_call 18; refine (HA.out _).mono ?_; rintro e w' ⟨rfl, rfl⟩) | fail)
          refine (iknown_any _).mono ?_
          rintro e w' ⟨rfl, hb⟩
          go_wp2
          have hK' := (hb.block _ (by have := HKl.out; have := E.out.size; omega)).trans ((E.out.block _ HKl.out).trans HK.out)
          refine ⟨by simp, .inl ⟨_, _, rfl, run_takeDeferred hK', ?_⟩⟩
          refine ⟨.bool true, by simp [results, Try.results3, go_sem], ?_⟩
          exact ⟨rfl, (HB0.out.trans ((E.out.mono HBz.out).trans (hb.mono (by have := E.out.size; have := HBz.out; omega)))).trans (belowK_b (w := w) (Nat.le_refl _) w' D _ _ (by have := HD.out; have := HB4z.out; omega) hK' rfl rfl)⟩
    · have HPl : Hid (pl l = []) := Lib.hid (by unfold pl; rw [if_neg hs])
      have hs0 : s = [] := by
        have := HF.out
        rw [HPl.out] at this
        exact List.prefix_nil.1 this
      subst hs0
      have HSd := Lib.hid (fun w => irefsized_no l.length w hs)
      clear hs
      go_upto_region 21 with fail
      go_loopw [22, 23] (fun n i wr => i = .int .i64 0 ∧ n = .int .i64 0 ∧ Hid (Below W.heap.size W wr)) (fun _ _ _ => 0)
      case atStart => exact ⟨rfl, rfl, Lib.hid (Below.refl _ _)⟩
      case round =>
        obtain ⟨rfl, rfl, E⟩ := hrel
        have hm := (E.out.cell (p := ⟨w.heap.size, 0, none⟩) HL0.out).trans HM.out
        have hc1 := (E.out.cell (p := ⟨w2.heap.size, 0, none⟩) (Nat.lt_of_succ_lt HL1.out)).trans HC1.out
        obtain ⟨q, hq⟩ : ∃ q : Int, (l.length : Int) / 2 = q := ⟨_, rfl⟩
        have hq0 : 0 ≤ q := by omega
        have hq1 : q ≤ 750 := by have := HLen.out; omega
        by_cases h0 : 0 < q
        · go_wp2_with (first | (go_at_call 19; refine (HSd.out _).mono ?_; rintro e w' ⟨rfl, rfl⟩) | (go_at_call 18; refine (HA.out _).mono ?_; rintro e w' ⟨rfl, rfl⟩) | fail)
          refine (iknown_any _).mono ?_
          rintro e w' ⟨rfl, hb⟩
          go_wp2
          have hK' := (hb.block _ (by have := HKl.out; have := E.out.size; omega)).trans ((E.out.block _ HKl.out).trans HK.out)
          refine ⟨by simp, .inl ⟨_, _, rfl, run_takeDeferred hK', ?_⟩⟩
          refine ⟨.bool true, by simp [results, Try.results3, go_sem], ?_⟩
          exact ⟨rfl, (HB0.out.trans ((E.out.mono HBz.out).trans (hb.mono (by have := E.out.size; have := HBz.out; omega)))).trans (belowK_b (w := w) (Nat.le_refl _) w' D _ _ (by have := HD.out; have := HB4z.out; omega) hK' rfl rfl)⟩
        · have hz : q = 0 := by omega
          go_wp2_with (first | (go_at_call 19; refine (HSd.out _).mono ?_; rintro e w' ⟨rfl, rfl⟩) | (go_at_call 18; refine (HA.out _).mono ?_; rintro e w' ⟨rfl, rfl⟩) | fail)
          refine (iknown_any _).mono ?_
          rintro e w' ⟨rfl, hb⟩
          go_wp2
          have hK' := (hb.block _ (by have := HKl.out; have := E.out.size; omega)).trans ((E.out.block _ HKl.out).trans HK.out)
          refine ⟨by simp, .inl ⟨_, _, rfl, run_takeDeferred hK', ?_⟩⟩
          refine ⟨.bool true, by simp [results, Try.results3, go_sem], ?_⟩
          exact ⟨rfl, (HB0.out.trans ((E.out.mono HBz.out).trans (hb.mono (by have := E.out.size; have := HBz.out; omega)))).trans (belowK_b (w := w) (Nat.le_refl _) w' D _ _ (by have := HD.out; have := HB4z.out; omega) hK' rfl rfl)⟩
  case stop =>
    rintro D c pre W hD hpre ⟨⟨rfl, hlen⟩, ⟨v1, v2, hb1, hr1, hb2, hr2, -⟩, hB⟩ hK
    obtain ⟨a1, q1, rfl⟩ := own_form1 hr1
    obtain ⟨a2, q2, rfl⟩ := own_form1 hr2
    obtain ⟨s, hs0⟩ : ∃ s, pre.dropLast = s := ⟨_, rfl⟩
    have HF : Hid (s <+: pl l) := Lib.hid (by rw [← hs0]; exact (List.dropLast_prefix _).trans hpre)
    rw [hs0] at hb1 hr1 hb2 hr2 hlen
    have HG : Hid (pl l = s ∨ s.length = mj) := Lib.hid (.inr hlen)
    have HLn : Hid (s.length ≤ mj) := Lib.hid (by omega)
    have H1 := Lib.hid hb1
    have H2 := Lib.hid hb2
    have R1 := Lib.hid hr1
    have R2 := Lib.hid hr2
    have HBl := Lib.hid hB
    have HK := Lib.hid hK
    have HD := Lib.hid hD
    clear hb1 hb2 hr1 hr2 hB hlen hK hD HSeq hs0 hpre
    have HKl : Hid (D < W.heap.size) := Lib.hid (lt_of_block HK.out)
    have HB0 : Hid (Below w.heap.size w W) := Lib.hid (B4.out.trans (HBl.out.mono (Nat.le_succ _)))
    have HBz : Hid (w.heap.size ≤ W.heap.size) := Lib.hid HB0.out.size
    have HB4z : Hid (w.heap.size ≤ w4.heap.size) := Lib.hid B4.out.size
    have hm : W.cell? ⟨w.heap.size, 0, none⟩ = some (.int .i64 M) := (HBl.out.cell (p := ⟨w.heap.size, 0, none⟩) (Nat.lt_succ_self _)).trans (M4.out.cell 0)
    have HM := Lib.hid hm
    have HC1 := Lib.hid H1.out.cell
    have HC2 := Lib.hid H2.out.cell
    have HL1 : Hid (w2.heap.size + 1 < W.heap.size) := Lib.hid H2.out.lt
    have HL0 : Hid (w.heap.size < W.heap.size) := Lib.hid (by have := HL1.out; have := HSZ.out; omega)
    clear hm
    by_cases hs : Sz l.length
    · have h64 : 64 ≤ l.length ∧ l.length ≤ 512 := by unfold Sz at hs; omega
      have hrW : Rw W a l := HR.out.below HB0.out
      obtain ⟨b', off', rfl⟩ := hrW.addr (by omega)
      have HRW := Lib.hid hrW
      have HSd := Lib.hid (fun w => irefsized_yes l.length w hs)
      have HPl : Hid (pl l = plT l (l.length / 2)) := Lib.hid (by unfold pl; rw [if_pos hs])
      clear hrW hs
      refine wpIn_wide.2 ?_
      go_upto_region 21 with fail
      go_loopw [22, 23] (fun n i wr => ∃ k : Nat, k ≤ l.length / 2 ∧ i = .int .i64 k ∧ n = .int .i64 ((plT l k).length : Nat) ∧ (plT l k).length ≤ mj ∧ Hid (Below W.heap.size W wr)) (fun _ i _ => l.length / 2 - (intOf i).toNat)
      case atStart => exact ⟨0, by omega, rfl, rfl, by simp [plT], Lib.hid (Below.refl _ _)⟩
      case round =>
        obtain ⟨k, hk, rfl, rfl, hle, E⟩ := hrel
        have hm := (E.out.cell (p := ⟨w.heap.size, 0, none⟩) HL0.out).trans HM.out
        have hc1 := (E.out.cell (p := ⟨w2.heap.size, 0, none⟩) (Nat.lt_of_succ_lt HL1.out)).trans HC1.out
        have hc2 := (E.out.cell (p := ⟨w2.heap.size + 1, 0, none⟩) HL1.out).trans HC2.out
        by_cases hlt : k < l.length / 2
        · have hk2 : 2 * k + 2 ≤ l.length := by omega
          have hlti : (k : Int) < (l.length : Int) / 2 := by omega
          by_cases hlm : (plT l k).length < mj
          · have hq : Rw wr (some ⟨b', off' + 2 * k, none⟩) ((l.drop (2 * k)).take 2) := ((HRW.out.below E.out).drop (2 * k) (a' := some ⟨b', off' + 2 * k, none⟩) (fun b' off' e _ => by injection e with e; injection e with e1 e2; subst e1 e2; rfl)).take 2
            have hu := nat_U (l := l) (p := 2 * k) (n := 2) HRW.out.1 (by omega)
            have HN := Lib.hid (num_len (cap := cap - 2 * k) (v := nat_ l (2 * k) 2) hq (m := 2) (by rw [List.length_take, List.length_drop]; omega) (by omega) rfl)
            have hcut := cut_at b' off' l.length cap (2 * k) (2 * k + 2) 2 (2 * (k : Int)) (2 * (k : Int) + 2) (by omega) (by omega) (by omega) (by have := HCap.out; omega) (by omega)
            have HStep : Hid (plT l (k + 1) = if nat_ l (2 * k) 2 = 0 then plT l k else plT l k ++ [((k : Int), nat_ l (2 * k) 2)]) := Lib.hid (by rw [Nat.mul_comm 2 k]; rfl)
            have HPre : Hid (plT l (k + 1) <+: pl l) := Lib.hid (by rw [HPl.out]; exact plT_pre l hlt)
            generalize nat_ l (2 * k) 2 = v at HN HStep hu
            have hw : IntKind.i64.wrap v = v := IntWalk.i64_in _ (by omega)
            clear hq
            by_cases hv : v = 0
            · subst hv
              have HS2 : Hid (plT l (k + 1) = plT l k) := Lib.hid (by rw [HStep.out, if_pos rfl])
              go_wp2_with (first | (go_at_call 19; refine (HSd.out _).mono ?_; rintro e w' ⟨rfl, rfl⟩) | (go_at_call 18; refine (HA.out _).mono ?_; rintro e w' ⟨rfl, rfl⟩) | (go_at_call 20; go_loud (refine HN.out.mono ?_); rintro e w' ⟨rfl, rfl⟩))
              go_roundw
              case rel => exact ⟨k + 1, by omega, by go_num, by rw [HS2.out], by rw [HS2.out]; omega, E⟩
              case measure => simp [intOf]; omega
            · have HS2 : Hid (plT l (k + 1) = plT l k ++ [((k : Int), v)]) := Lib.hid (by rw [HStep.out, if_neg hv])
              obtain ⟨hns, hat⟩ := pref_at (by rw [← HS2.out]; exact HPre.out) HF.out HG.out hlm
              have HS3 : Hid ((plT l (k + 1)).length = (plT l k).length + 1) := Lib.hid (by rw [HS2.out, List.length_append]; rfl)
              have hn3 : (plT l k).length ≤ 300 := by omega
              generalize (plT l k).length = nn at hns hat hlm HS3 hn3 ⊢
              obtain ⟨g1, hg1, hgl1, ha1⟩ := own_at R1.out nn hns
              obtain ⟨g2, hg2, hgl2, ha2⟩ := own_at R2.out nn hns
              rw [List.getElem?_map, hat] at ha1 ha2
              simp only [Option.map_some] at ha1 ha2
              subst hg1 hg2
              have l1 := (E.out.cell (p := ⟨g1, nn, none⟩) hgl1).trans ha1
              have l2 := (E.out.cell (p := ⟨g2, nn, none⟩) hgl2).trans ha2
              have hnsi : (nn : Int) < (s.length : Int) := by omega
              have hv1 : ((v : Int) == 0) = false := by simp [hv]
              clear ha1 ha2 hat
              go_wp2_with (first | (go_at_call 19; refine (HSd.out _).mono ?_; rintro e w' ⟨rfl, rfl⟩) | (go_at_call 18; refine (HA.out _).mono ?_; rintro e w' ⟨rfl, rfl⟩) | (go_at_call 20; go_loud (refine HN.out.mono ?_); rintro e w' ⟨rfl, rfl⟩))
              go_roundw
              case rel => exact ⟨k + 1, by omega, by go_num, by rw [HS3.out]; go_num, by rw [HS3.out]; omega, E⟩
              case measure => simp [intOf]; omega
          · have hEn : (plT l k).length = s.length := pref_end (by rw [HPl.out]; exact plT_pre l hk) HF.out HG.out HLn.out hle (.inr (by omega))
            have hmi : ¬ ((plT l k).length : Int) < (mj : Int) := by omega
            have hs300 : s.length ≤ 300 := by omega
            generalize (plT l k).length = nn at hEn hmi hlm hle ⊢
            subst hEn
            go_wp2_with (first | (go_at_call 19; refine (HSd.out _).mono ?_; rintro e w' ⟨rfl, rfl⟩) | (go_at_call 18; refine (HA.out _).mono ?_; rintro e w' ⟨rfl, rfl⟩) | fail)
            refine (iknown_any _).mono ?_
            rintro e w' ⟨rfl, hb⟩
            go_wp2
            have hK' := (hb.block _ (by have := HKl.out; have := E.out.size; omega)).trans ((E.out.block _ HKl.out).trans HK.out)
            refine ⟨by simp, .inl ⟨_, _, rfl, run_takeDeferred hK', ?_⟩⟩
            refine ⟨.bool true, by simp [results, Try.results3, go_sem], ?_⟩
            exact ⟨rfl, (HB0.out.trans ((E.out.mono HBz.out).trans (hb.mono (by have := E.out.size; have := HBz.out; omega)))).trans (belowK_b (w := w) (Nat.le_refl _) w' D _ _ (by have := HD.out; have := HB4z.out; omega) hK' rfl rfl)⟩
        · have hkk : k = l.length / 2 := by omega
          have hEn : (plT l k).length = s.length := pref_end (by rw [HPl.out]; exact plT_pre l hk) HF.out HG.out HLn.out hle (.inl (by rw [HPl.out, hkk]))
          have hki : ¬ (k : Int) < (l.length : Int) / 2 := by omega
          have hs300 : s.length ≤ 300 := by omega
          generalize (plT l k).length = nn at hEn hle ⊢
          subst hEn
          go_wp2_with (first | (go_at_call 19; refine (HSd.out _).mono ?_; rintro e w' ⟨rfl, rfl⟩) | (go_at_call 18; refine (HA.out _).mono ?_; rintro e w' ⟨rfl, rfl⟩) | fail)
          refine (iknown_any _).mono ?_
          rintro e w' ⟨rfl, hb⟩
          go_wp2
          have hK' := (hb.block _ (by have := HKl.out; have := E.out.size; omega)).trans ((E.out.block _ HKl.out).trans HK.out)
          refine ⟨by simp, .inl ⟨_, _, rfl, run_takeDeferred hK', ?_⟩⟩
          refine ⟨.bool true, by simp [results, Try.results3, go_sem], ?_⟩
          exact ⟨rfl, (HB0.out.trans ((E.out.mono HBz.out).trans (hb.mono (by have := E.out.size; have := HBz.out; omega)))).trans (belowK_b (w := w) (Nat.le_refl _) w' D _ _ (by have := HD.out; have := HB4z.out; omega) hK' rfl rfl)⟩
    · have HPl : Hid (pl l = []) := Lib.hid (by unfold pl; rw [if_neg hs])
      have hs0 : s = [] := by
        have := HF.out
        rw [HPl.out] at this
        exact List.prefix_nil.1 this
      subst hs0
      have HSd := Lib.hid (fun w => irefsized_no l.length w hs)
      clear hs
      refine wpIn_wide.2 ?_
      go_upto_region 21 with fail
      go_loopw [22, 23] (fun n i wr => i = .int .i64 0 ∧ n = .int .i64 0 ∧ Hid (Below W.heap.size W wr)) (fun _ _ _ => 0)
      case atStart => exact ⟨rfl, rfl, Lib.hid (Below.refl _ _)⟩
      case round =>
        obtain ⟨rfl, rfl, E⟩ := hrel
        have hm := (E.out.cell (p := ⟨w.heap.size, 0, none⟩) HL0.out).trans HM.out
        have hc1 := (E.out.cell (p := ⟨w2.heap.size, 0, none⟩) (Nat.lt_of_succ_lt HL1.out)).trans HC1.out
        obtain ⟨q, hq⟩ : ∃ q : Int, (l.length : Int) / 2 = q := ⟨_, rfl⟩
        have hq0 : 0 ≤ q := by omega
        have hq1 : q ≤ 750 := by have := HLen.out; omega
        by_cases h0 : 0 < q
        · go_wp2_with (first | (go_at_call 19; refine (HSd.out _).mono ?_; rintro e w' ⟨rfl, rfl⟩) | (go_at_call 18; refine (HA.out _).mono ?_; rintro e w' ⟨rfl, rfl⟩) | fail)
          refine (iknown_any _).mono ?_
          rintro e w' ⟨rfl, hb⟩
          go_wp2
          have hK' := (hb.block _ (by have := HKl.out; have := E.out.size; omega)).trans ((E.out.block _ HKl.out).trans HK.out)
          refine ⟨by simp, .inl ⟨_, _, rfl, run_takeDeferred hK', ?_⟩⟩
          refine ⟨.bool true, by simp [results, Try.results3, go_sem], ?_⟩
          exact ⟨rfl, (HB0.out.trans ((E.out.mono HBz.out).trans (hb.mono (by have := E.out.size; have := HBz.out; omega)))).trans (belowK_b (w := w) (Nat.le_refl _) w' D _ _ (by have := HD.out; have := HB4z.out; omega) hK' rfl rfl)⟩
        · have hz : q = 0 := by omega
          go_wp2_with (first | (go_at_call 19; refine (HSd.out _).mono ?_; rintro e w' ⟨rfl, rfl⟩) | (go_at_call 18; refine (HA.out _).mono ?_; rintro e w' ⟨rfl, rfl⟩) | fail)
          refine (iknown_any _).mono ?_
          rintro e w' ⟨rfl, hb⟩
          go_wp2
          have hK' := (hb.block _ (by have := HKl.out; have := E.out.size; omega)).trans ((E.out.block _ HKl.out).trans HK.out)
          refine ⟨by simp, .inl ⟨_, _, rfl, run_takeDeferred hK', ?_⟩⟩
          refine ⟨.bool true, by simp [results, Try.results3, go_sem], ?_⟩
          exact ⟨rfl, (HB0.out.trans ((E.out.mono HBz.out).trans (hb.mono (by have := E.out.size; have := HBz.out; omega)))).trans (belowK_b (w := w) (Nat.le_refl _) w' D _ _ (by have := HD.out; have := HB4z.out; omega) hK' rfl rfl)⟩

theorem ptsOf_any (a : Option Addr) (n c : Nat) (l : List Int) (w : World) (hr : Rw w a l) (hl : l.length = n) (hn : n ≤ 1500) (ha : a = none → n = 0 ∧ c = 0) : Calls Try.prog 17 #[.slice a n c] w (PtsOf l w) := by
  by_cases hs : Sz n
  · have h64 : 64 ≤ n := by unfold Sz at hs; omega
    obtain ⟨b, off, rfl⟩ := hr.addr (by omega)
    refine (pointersOf_yes b off n c l w hr hl (by omega)).mono ?_
    rintro e w' ⟨Bn, g, cc, rfl, hB, hcc, hrw, hbel, hz, hgz⟩
    have hg : g < w'.heap.size := by
      rcases hrw.2.2 with h | ⟨b', o', e, h⟩
      · rw [h] at hl; simp at hl; omega
      · injection e with e; injection e with e1 e2; subst e1 e2
        exact block_lt_of_cell (h 0 (by omega))
    exact ⟨Bn, g, rfl, hB.lt, hg, hz, hgz, pointers_stops 4 (by omega) Bn l g 0 n cc hs hl hcc w' hB.lt (hB.cell 0) hrw, hbel⟩
  · refine (pointersOf_no a n c l w hr hl (by omega) ha).mono ?_
    rintro e w' ⟨Bn, A, cc, rfl, hB, hbel, hz⟩
    exact ⟨Bn, Bn, rfl, hB.lt, hB.lt, hz, hz, pointers_stops_no 4 (by omega) Bn Bn l A n cc hs hl w' hB.lt (hB.cell 0), hbel⟩

set_option maxRecDepth 100000 in
theorem inodePoints_walk (a : Option Addr) (n c : Nat) (zs : List Int) (K tv M : Int) (w : World) (w0 : Row8 w a n c zs) (_w1 : (Lit.int .i64 K).wf = true) (_w2 : (Lit.int .i64 tv).wf = true) (w3 : (Lit.int .i64 M).wf = true) :
    Calls Try.prog 3 #[.slice a n c, .int .i64 K, .int .i64 tv, .int .i64 M] w fun e w' => e = .returned (.bool true) ∧ Below w.heap.size w w' := by
  by_cases h : 1500 < n
  · exact inodePoints_long a n c K tv M w h
  · have hN : a = none → n = 0 ∧ c = 0 := fun e => by
      rcases w0 with ⟨_, h1, h2, _⟩ | ⟨x, h1, _⟩
      · exact ⟨h1, h2⟩
      · rw [e] at h1; cases h1
    obtain ⟨l, hl, hc, hr, -⟩ := w0.rw
    subst hl
    have hM := bounds_i64 w3
    exact inodePoints_short a c l K tv M w (by omega) hr hc (by omega) (by omega) (fun w' hb => ptsOf_any a l.length c l w' (hr.below hb) rfl (by omega) hN)

end Go.Proofs.Ytladgfonkolpmaa
