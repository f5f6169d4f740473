/-
  A page that is programmed keeps its bytes: the law NandKeeps.
-/
import Derived.Test.YtjpiaanpkpjpcaaMadeW
import Derived.Test.YtjpiaanpkpjpcaaNandSeq
import Derived.Test.YtjpiaanpkpjpcaaNandKnown
import Derived.Shelf.Abstract
import Derived.RangeFuncNested
import Derived.RangeFuncWrites
namespace Go.Proofs.Ytjpiaanpkpjpcaa
open Go.RowKit Crcm Tagm Go.ChangeShapes

attribute [local go_sem] Oper.semAt_some

theorem run_equalIn_func_nilK (w : World) (n : Nat) (t : TypeId) (d : TypeDesc) (h : Try.prog.underlying t = some d) (hd : ∃ a b c, d = .func a b c) (f : Fn) (b l : Array Value) : (Op.equalIn (n + 1) t (.func f b l) .nilFunc).run Try.prog w = .ok false w := by
  obtain ⟨x, y, z, rfl⟩ := hd
  simp [Op.equalIn, run_underlying h]
theorem run_eql_func_nilK (w : World) (t : TypeId) (d : TypeDesc) (h : Try.prog.underlying t = some d) (hd : ∃ a b c, d = .func a b c) (f : Fn) (b l : Array Value) : (binOp .eql t (.func f b l) .nilFunc).run Try.prog w = .ok (.bool false) w := by
  simp only [binOp]
  simp [Op.equal, Op.maxDepth, run_equalIn_func_nilK w 9999 t d h hd f b l]

theorem kp_base2 {F : Nat → Prop} {a b c : World} {row : Option Nat} (h : Kp F a b) (hg : b.grownBy c row) (hr : ∀ r, row = some r → a.heap.size ≤ r) : Kp F a c :=
  ⟨hg.os.trans h.os, hg.tape.trans h.tape, hg.output.trans h.output, Nat.le_trans h.size hg.size, fun k hk hf => (hg.block k (Nat.lt_of_lt_of_le hk h.size) (fun e => by have := hr k e.symm; omega)).trans (h.block k hk hf)⟩

set_option maxRecDepth 100000 in
set_option maxHeartbeats 4000000 in
theorem nandKeeps_core (x y z : Int) (ab : Option Addr) (nb' cb : Nat) (bl : List Int) (ao : Option Addr) (m co : Nat) (ol : List Oz) (bk pg : Int) (a2 : Option Addr) (m2 c2 : Nat) (ol2 : List Oz) (w : World)
    (hbl : Ri w ab bl) (hl : bl.length = nb') (hol : Ro w ao ol) (hm : ol.length = m) (hz : ∀ y ∈ ol, SzO y) (hol2 : Ro w a2 ol2) (hm2 : ol2.length = m2) (hz2 : ∀ y ∈ ol2, SzO y) :
    Calls Try.prog 4 #[geoV x y z, .slice ab nb' cb, .slice ao m co, .int .i64 bk, .int .i64 pg, .slice a2 m2 c2] w fun e w' => e = .returned (.bool true) ∧ Below w.heap.size w w' := by
  have HMade := Lib.hid (fun w' (hb : Below w.heap.size w w') => made_any x y z ab nb' cb bl ao m co ol w' (hbl.below hb) hl (hol.below hb) hm hz)
  have HLong := Lib.hid (fun w' (hb : Below w.heap.size w w') => long_few a2 m2 c2 ol2 w' (hol2.below hb) hm2 hz2)
  have HKn := Lib.hid (fun W => knownN_any W)
  have HOl2 := Lib.hid hol2
  have HM2 := Lib.hid hm2
  have HBl := Lib.hid hbl
  have HL := Lib.hid hl
  have m9 : m2 ≤ 9223372036854775807 := by have := hol2.1; unfold maxLen at this; omega
  have hb1 := ((Below.refl w.heap.size w).alloc (Nat.le_refl _) (.cells #[.int .i64 x, .int .i64 y, .int .i64 z] 23)).alloc (by simp) (.cells #[.int .i64 pg] 3)
  have HG0 := Lib.hid ((Blk.new w 23 #[.int .i64 x, .int .i64 y, .int .i64 z]).alloc (.cells #[.int .i64 pg] 3))
  have HP0 : Hid (Blk ((w.alloc (.cells #[.int .i64 x, .int .i64 y, .int .i64 z] 23)).alloc (.cells #[.int .i64 pg] 3)) (w.heap.size + 1) 3 #[.int .i64 pg]) := Lib.hid (by
    have := Blk.new (w.alloc (.cells #[.int .i64 x, .int .i64 y, .int .i64 z] 23)) 3 #[.int .i64 pg]
    simpa using this)
  have HB0 := Lib.hid hb1
  have hfn := fun W f b l => run_eql_func_nilK W 52 _ Try.underlying52 ⟨_, _, _, rfl⟩ f b l
  unfold geoV at HMade ⊢
  clear hbl hl hol hm hz hol2 hm2 hz2 hb1
  refine (callsIn_wide (n := 5)).1 ?_
  refine callsIn_of_wp_marks Try.func4 rfl trivial ?_ rfl
  simp only [Try.ntmps4, List.size_toArray, List.length_cons, List.length_nil, Nat.reduceAdd, Nat.reduceSub, Array.replicate_succ, Array.replicate_zero, List.push_toArray, List.append_toArray, List.nil_append, List.cons_append]
  refine wpIn_wide.2 ?_
  go_upto_region 1 with (fail)
  generalize ((w.alloc (.cells #[.int .i64 x, .int .i64 y, .int .i64 z] 23)).alloc (.cells #[.int .i64 pg] 3)) = W at HB0 HG0 HP0 ⊢
  obtain ⟨gb, hgb⟩ : ∃ gb, w.heap.size = gb := ⟨_, rfl⟩
  have HGb := Lib.hid hgb
  rw [hgb] at HG0 HP0 ⊢
  clear hgb
  have q0 : W.cell? ⟨gb, 0, none⟩ = some (.int .i64 x) := HG0.out.cell 0
  have q1 : W.cell? ⟨gb, 1, none⟩ = some (.int .i64 y) := HG0.out.cell 1
  have q2 : W.cell? ⟨gb, 2, none⟩ = some (.int .i64 z) := HG0.out.cell 2
  go_wp2_with fail
  refine (HMade.out _ HB0.out).mono ?_
  rintro e w1 ⟨hb, hcase⟩
  have HB1 := Lib.hid (HB0.out.trans (hb.mono HB0.out.size))
  have HG1 := Lib.hid (HG0.out.below hb HG0.out.lt)
  have HP1 := Lib.hid (HP0.out.below hb HP0.out.lt)
  clear q0 q1 q2
  rcases hcase with rfl | ⟨X, o, c, r, rfl, htw, hX, ⟨hx, hy, hz⟩, hgood, -⟩
  case inl =>
    clear hb
    go_wp2_with fail
    refine (HKn.out _).mono ?_
    rintro e w' ⟨rfl, hb9⟩
    have HB9 := Lib.hid (HB1.out.trans (hb9.mono HB1.out.size))
    clear hb9
    go_wp2_with fail
    exact ⟨.bool true, by simp [results, Try.results4, go_sem], rfl, HB9.out⟩
  have HT1 := Lib.hid htw
  have HX1 : Hid (∀ b, X b → w.heap.size ≤ b) := Lib.hid fun b h => Nat.le_trans HB0.out.size (hX b h)
  have HXg : Hid (∀ b, X b → gb + 1 < b) := Lib.hid fun b h => by have h1 := hX b h; have h2 := HP0.out.lt; omega
  have HGo := Lib.hid hgood
  have hop : o.p = .pointer (some ⟨o.bc, 0, none⟩) := rfl
  rw [hop]
  clear hb htw hX hgood HMade
  go_wp2_with fail
  refine (HLong.out _ HB1.out).mono ?_
  rintro e w' ⟨he, rfl⟩
  rcases he with ⟨rfl, hsm⟩ | rfl
  case inr =>
    go_wp2_with fail
    refine (HKn.out _).mono ?_
    rintro e w' ⟨rfl, hb9⟩
    have HB9 := Lib.hid (HB1.out.trans (hb9.mono HB1.out.size))
    clear hb9
    go_wp2_with fail
    exact ⟨.bool true, by simp [results, Try.results4, go_sem], rfl, HB9.out⟩
  have HSm := Lib.hid hsm
  have HSt := Lib.hid (start_any HT1.out.a)
  have hop2 : o.p = .pointer (some ⟨o.bc, 0, none⟩) := rfl
  rw [hop2] at HSt
  clear hop2
  clear hsm HLong
  go_wp2_with fail
  refine HSt.out.mono ?_
  rintro e w2 ⟨rfl, hc2, hk2⟩
  have HT2 := Lib.hid (HT1.out.own hc2 hk2 (Kd.same (P := fun _ => False) rfl rfl rfl rfl))
  have HB2 := Lib.hid (HB1.out.trans (hk2.below (fun b h => HX1.out b (HT1.out.a.inX b h)) HB1.out.size))
  have HG2 := Lib.hid (HG1.out.kp hk2 (fun g => by have h1 := HXg.out _ (HT1.out.a.inX _ g); omega))
  have HP2 := Lib.hid (HP1.out.kp hk2 (fun g => by have h1 := HXg.out _ (HT1.out.a.inX _ g); omega))
  clear hc2 hk2 HSt HG1 HP1 HT1
  obtain ⟨d2, hc2⟩ : ∃ d2 : Ch, { c with up := true } = d2 := ⟨_, rfl⟩
  have hn2 : d2.nb = c.nb ∧ d2.np = c.np ∧ d2.sz = c.sz ∧ d2.up = true := by rw [← hc2]; exact ⟨rfl, rfl, rfl, rfl⟩
  rw [hc2] at HT2
  rw [← hn2.1] at hx
  rw [← hn2.2.1] at hy
  rw [← hn2.2.2.1] at hz
  have HUp := Lib.hid hn2.2.2.2
  clear hc2 hn2
  have p0 : w2.cell? ⟨gb + 1, 0, none⟩ = some (.int .i64 pg) := HP2.out.cell 0
  by_cases hrp : rpE d2 bk pg = 0
  case neg =>
    have h12 : rpE d2 bk pg = 12 := by
      have h1 : reE d2 bk = 12 ∨ reE d2 bk = 0 := by
        unfold reE
        rw [HUp.out]
        simp only [if_true]
        split
        · exact .inl rfl
        · exact .inr rfl
      unfold rpE at hrp ⊢
      rcases h1 with h1 | h1
      · rw [h1]; rfl
      · rw [h1] at hrp ⊢
        rw [if_pos rfl] at hrp ⊢
        split
        · rfl
        · rename_i h; rw [if_neg h] at hrp; exact absurd rfl hrp
    have HRd := Lib.hid (read_no HT2.out.a bk pg hrp)
    rw [h12] at HRd
    have hop2 : o.p = .pointer (some ⟨o.bc, 0, none⟩) := rfl
    rw [hop2] at HRd
    clear hop2 hrp h12
    go_wp2_with fail
    refine HRd.out.mono ?_
    rintro e w' ⟨rfl, rfl⟩
    go_wp2_with fail
    refine (HKn.out _).mono ?_
    rintro e w' ⟨rfl, hb9⟩
    have HB9 := Lib.hid (HB2.out.trans (hb9.mono HB2.out.size))
    clear hb9
    go_wp2_with fail
    exact ⟨.bool true, by simp [results, Try.results4, go_sem], rfl, HB9.out⟩
  obtain ⟨r1, r2, r3⟩ := rpE_zero hrp
  obtain ⟨s1, s2, s3⟩ := reE_zero r1
  obtain ⟨n, rfl⟩ : ∃ n : Nat, bk = n := ⟨bk.toNat, by omega⟩
  obtain ⟨q, rfl⟩ : ∃ q : Nat, pg = q := ⟨pg.toNat, by omega⟩
  have hnb : n < d2.nb := by omega
  have hqp : q < d2.np := by omega
  have HRd := Lib.hid (read_yes HT2.out.a n q hrp)
  have HRe := Lib.hid r1
  have hop2 : o.p = .pointer (some ⟨o.bc, 0, none⟩) := rfl
  rw [hop2] at HRd
  clear hop2 hrp r1 r2 r3 s1 s2 s3
  go_wp2_with fail
  refine HRd.out.mono ?_
  rintro e w3 ⟨⟨gw, cw, rfl, hcw, hgw, hrw, hlw⟩, hc3, hk3⟩
  obtain ⟨d3, hd3⟩ : ∃ d3 : Ch, { d2 with reads := wrap64 (d2.reads + 1) } = d3 := ⟨_, rfl⟩
  have hn3 : d3.nb = d2.nb ∧ d3.np = d2.np ∧ d3.sz = d2.sz ∧ d3.up = d2.up ∧ d3.pg = d2.pg := by rw [← hd3]; exact ⟨rfl, rfl, rfl, rfl, rfl⟩
  rw [hd3] at hc3
  have HRe3 : Hid (reE d3 n = 0) := Lib.hid (by have h := HRe.out; unfold reE at h ⊢; rw [hn3.1, hn3.2.2.2.1]; exact h)
  have HB3 := Lib.hid (HB2.out.trans (hk3.below (fun b h => HX1.out b (HT2.out.a.inX b h)) HB2.out.size))
  have HG3 := Lib.hid (HG2.out.kp hk3 (fun g => by have h1 := HXg.out _ (HT2.out.a.inX _ g); omega))
  have HP3 := Lib.hid (HP2.out.kp hk3 (fun g => by have h1 := HXg.out _ (HT2.out.a.inX _ g); omega))
  have HWas : Hid (RwX w3 X (some ⟨gw, 0, none⟩) (rdL d2 n q)) := Lib.hid ⟨hrw, fun b off s e _ gx => by
    injection e with e
    injection e with e1 e2 e3
    have := HT2.out.a.old _ gx
    omega⟩
  have hlw3 : (rdL d2 n q).length = d3.sz + 32 := by rw [hn3.2.2.1]; exact hlw
  have HLw := Lib.hid hlw3
  have HCw := Lib.hid hcw
  have HC3 := Lib.hid hc3
  have HN3 := Lib.hid hn3
  clear hc3 hk3 hrw hlw hlw3 hcw hgw hd3 hn3 p0 HRd HT2 HG2 HP2
  go_upto_region 9 with (fail)
  have hal := (Below.refl w3.heap.size w3).alloc (Nat.le_refl _) (.cells #[.bool false] 4)
  have HC4 := Lib.hid (HC3.out.widen (X' := fun b => X b ∨ b = w3.heap.size) hal (fun b h => h.imp id (fun e => by omega)) (fun b h => by
    rw [World.size_alloc]
    rcases h with h | h
    · have := HC3.out.old b h; omega
    · omega) (fun b h => .inl h))
  have HW4 := Lib.hid (HWas.out.widen (X' := fun b => X b ∨ b = w3.heap.size) hal (fun b h => h.imp id (fun e => by omega)))
  have HB4 := Lib.hid (HB3.out.alloc HB3.out.size (.cells #[.bool false] 4))
  have HG4 := Lib.hid (HG3.out.alloc (.cells #[.bool false] 4))
  have HP4 := Lib.hid (HP3.out.alloc (.cells #[.bool false] 4))
  have HT4 := Lib.hid (Blk.new w3 4 #[.bool false])
  clear hal
  generalize (w3.alloc (.cells #[.bool false] 4)) = w4 at HC4 HW4 HB4 HG4 HP4 HT4 ⊢
  obtain ⟨T, hTe⟩ : ∃ T, w3.heap.size = T := ⟨_, rfl⟩
  have HTw : Hid (w.heap.size ≤ T ∧ gb + 1 < T) := Lib.hid ⟨by rw [← hTe]; exact HB3.out.size, by rw [← hTe]; exact HP3.out.lt⟩
  have HXT : Hid (∀ b, X b → b < T) := Lib.hid (fun b h => by rw [← hTe]; exact HC3.out.old b h)
  have HOw : Hid (∀ b, o.F d3.nb b → X b) := Lib.hid (fun b h => HC3.out.inX b h)
  rw [hTe] at HC4 HW4 HT4 ⊢
  clear hTe HC3 HWas HB3 HG3 HP3
  have HPg := Lib.hid (gpages_yes HC4.out n HRe3.out)
  have hop2 : o.p = .pointer (some ⟨o.bc, 0, none⟩) := rfl
  rw [hop2] at HPg
  clear hop2
  go_wp2_with fail
  refine HPg.out.mono ?_
  rintro e w5 ⟨⟨g5, cap5, rfl, hk5, hg5, hgl5, hv5⟩, hb5⟩
  obtain ⟨p5, hp5⟩ : ∃ p5, w4.heap.size = p5 := ⟨_, rfl⟩
  have hpl5 : p5 < w5.heap.size := by rw [← hp5]; exact hk5.lt
  have hTp : T < p5 := by rw [← hp5]; exact HT4.out.lt
  rw [hp5] at hk5 hg5 ⊢
  have HC5 := Lib.hid (HC4.out.below hb5)
  have HW5 := Lib.hid (HW4.out.belowX hb5)
  have HB5 := Lib.hid (HB4.out.trans (hb5.mono HB4.out.size))
  have HG5 := Lib.hid (HG4.out.below hb5 HG4.out.lt)
  have HP5 := Lib.hid (HP4.out.below hb5 HP4.out.lt)
  have HT5 := Lib.hid (HT4.out.below hb5 HT4.out.lt)
  have HN := Lib.hid HC5.out.good
  have HSeq := Lib.hid (pages_stops 4 (by omega) p5 g5 d3.np cap5 (d3.sz + 32) T (fun b => X b ∨ b = T) (d3.pg n) w5 (by have := HN.out; unfold Gd at this; omega) (by have := HN.out; unfold Gd at this; omega) ⟨by omega, by omega, .inr rfl⟩ ⟨hpl5, hgl5⟩ hk5 hv5)
  clear hk5 hv5 hb5 HC4 HW4 HB4 HG4 HP4 HT4 HPg hp5
  go_wp2_with fail
  refine (wpIn_wide (n := 5)).1 ?_
  have hgb5 : gb + 1 < T := HTw.out.2
  have hT5l : T < w5.heap.size := HT5.out.lt
  generalize hA0 : ({ tmps := _, defers := [] } : Act) = A0
  refine wpIn_rangeFunc_ownF rfl (by omega) (gf := 50) (lb := #[.pointer (some ⟨p5, 0, none⟩)]) (by rw [← hA0]; rfl) trivial (enters_of Try.func50 (by kernel_rfl) rfl)
    HSeq.out (fun h k => ⟨h.1.trans k.1, Nat.le_trans h.2 k.2⟩) (fun V l o1 o' hl ho _ _ => ⟨fun b _ hb => World.putObj_heap_other (by omega), by simp⟩) (Below.refl _ _) (fun _ => rfl)
    (fun (pre : List (Nat × Value)) V => Blk V T 4 #[.bool (pre.any fun x => x.1 == q)] ∧ Kp (fun b => b = T) w5 V) (fun _ _ _ => False)
    (fun pre V V' row ⟨h1, h2⟩ hg hr => ⟨(hg.block T h1.lt (fun e => by have := (hr T e.symm).1; omega)).trans h1, kp_base2 h2 hg (fun r e => (hr r e).1)⟩)
    (fun _ => ownFrom_pure _ (fun _ => False))
    ⟨HT5.out, Kp.refl _ _⟩
    (fun x => ⟨((A0.tmps.setIfInBounds 63 (.int .i64 (x.1 : Nat))).setIfInBounds 64 x.2).setIfInBounds 20 (.int .i64 (x.1 : Nat)), []⟩)
    ?assign ?body ?done ?stop
  case assign =>
    rintro y x V K hK
    subst hA0
    gi_wp2
    exact hK
  case stop => exact fun _ _ _ _ _ _ h => h.elim
  case body =>
    rintro y pre x V ⟨hT, hK⟩ hlt
    subst hA0
    simp only [List.setIfInBounds_toArray, List.set]
    have c18 := hT.cell 0
    have f18 := hT.frozen 0
    have c10 : V.cell? ⟨gb + 1, 0, none⟩ = some (.int .i64 q) := (HP5.out.kp hK (by omega)).cell 0
    have hxq : ((x.1 : Int) == (q : Int)) = (x.1 == q) := by rw [Bool.eq_iff_iff]; simp; omega
    have hany : ((pre ++ [x]).any fun x => x.1 == q) = ((pre.any fun x => x.1 == q) || (x.1 == q)) := by simp
    have HAny := Lib.hid hany
    have HK := Lib.hid hK
    have HTb := Lib.hid hT
    simp only [List.getElem?_toArray, List.getElem?_cons_zero] at c18
    rw [← hxq] at HAny
    clear hany hxq hT hK
    obtain ⟨i, v⟩ := x
    dsimp only at HAny ⊢
    generalize (pre.any fun x => x.1 == q) = b at c18 HAny HTb
    have HEnd : Hid (∀ t : Bool, t = (b || ((i : Int) == (q : Int))) → KeepsOthers V (V.setCell ⟨T, 0, none⟩ (.bool t)) ∧ (Kb T w5.heap.size V (V.setCell ⟨T, 0, none⟩ (.bool t)) ∧ V.heap.size ≤ (V.setCell ⟨T, 0, none⟩ (.bool t)).heap.size) ∧
        (Blk (V.setCell ⟨T, 0, none⟩ (.bool t)) T 4 #[.bool ((pre ++ [(i, v)]).any fun x => x.1 == q)] ∧ Kp (fun b => b = T) w5 (V.setCell ⟨T, 0, none⟩ (.bool t)))) := Lib.hid (fun t ht => by
      refine ⟨KeepsOthers.setCell _ _ _, ⟨fun b hb _ => Below.heap_setCell _ _ _ _ hb, size_set0 _ _ _⟩, ?_, HK.out.setCell (p := ⟨T, 0, none⟩) (.inl rfl) _⟩
      rw [HAny.out, ← ht]
      have := HTb.out.put 0 (.bool t)
      simpa using this)
    clear HAny HTb HK
    cases b
    · cases hq : ((i : Int) == (q : Int))
      · rw [hq] at HEnd
        gi_wp2
        exact HEnd.out _ rfl
      · rw [hq] at HEnd
        gi_wp2
        exact HEnd.out _ rfl
    · gi_wp2
      exact HEnd.out _ rfl
  case done =>
    rintro D xs V hD hxs ⟨hT, hK⟩ hdef
    subst hA0
    have HCv := HC5.out.kp hK (fun b e => .inr e) (fun b h e => by have := HXT.out b (HOw.out b h); omega)
    have HCx := Lib.hid (HCv.narrow (X := X) (fun b h => .inl h) HOw.out)
    have HWx := Lib.hid ((HW5.out.kp hK (fun b e => .inr e)).narrow (X := X) (fun b h => .inl h))
    have HBv := Lib.hid (HB5.out.trans (hK.below (fun b e => by have := HTw.out.1; omega) HB5.out.size))
    have HGv := Lib.hid (HG5.out.kp hK (by omega))
    have HPv := Lib.hid (HP5.out.kp hK (by omega))
    have HD := Lib.hid hD
    have HDef := Lib.hid hdef
    have hDl : D < V.heap.size := by
      rcases Nat.lt_or_ge D V.heap.size with h | h
      · exact h
      · rw [Array.getElem?_eq_none h] at hdef; cases hdef
    have hTD : T < D := by omega
    have HPgm : Hid ((xs.any fun x => x.1 == q) = true → d3.pg n q ≠ none) := Lib.hid (fun h => by
      obtain ⟨x, hx, he⟩ := List.any_eq_true.1 h
      have := (hxs x hx).2
      rw [show x.1 = q by simpa using he] at this
      exact this)
    generalize (xs.any fun x => x.1 == q) = pgm at hT HPgm
    have HTv := Lib.hid hT
    clear hT hK hD hdef hxs HCv HC5 HW5 HB5 HG5 HP5 HT5 HSeq hgl5 hg5 hpl5 hT5l hTp
    subst hx hy hz
    have hgd : Gd d2.nb d2.np d2.sz := by have h := HCx.out.good; rw [HN3.out.1, HN3.out.2.1, HN3.out.2.2.1] at h; exact h
    have hgn : d2.nb < 129 ∧ d2.np < 33 ∧ d2.sz ≤ 512 := by have h := hgd; unfold Gd at h; omega
    have HNew := Lib.hid (rnew_any d2.nb d2.np d2.sz V hgd X (fun b h => HCx.out.old b h) bl ab nb' cb (HBl.out.below HBv.out) HL.out)
    unfold geoV at HNew
    have q0 : V.cell? ⟨gb, 0, none⟩ = some (.int .i64 d2.nb) := HGv.out.cell 0
    have q1 : V.cell? ⟨gb, 1, none⟩ = some (.int .i64 d2.np) := HGv.out.cell 1
    have q2 : V.cell? ⟨gb, 2, none⟩ = some (.int .i64 d2.sz) := HGv.out.cell 2
    clear hgd
    go_wp2_with fail
    refine HNew.out.mono ?_
    rintro e V1 ⟨hb6, ⟨-, r2, rfl, hrc, hrf⟩ | ⟨⟨v, hv, hv2⟩, -⟩⟩
    case inr => exact absurd (HGo.out v hv) hv2
    obtain ⟨X6, hX6⟩ : ∃ X6 : Nat → Prop, (fun b => X b ∨ r2.F b) = X6 := ⟨_, rfl⟩
    have hx6 : ∀ b, X6 b ↔ (X b ∨ r2.F b) := fun b => by rw [← hX6]
    rw [hX6] at hrc
    have HTw6 : Hid (Tw V1 X6 o d3 r2) := Lib.hid ⟨HCx.out.widen hb6 (fun b h => ((hx6 b).1 h).imp id (fun h => hrf b h)) hrc.old (fun b h => (hx6 b).2 (.inl h)), ⟨false, by rw [HN3.out.1, HN3.out.2.1, HN3.out.2.2.1]; exact hrc⟩, fun b h g => by
      have h1 := HXT.out b (HOw.out b h)
      have h2 := hrf b g
      have h3 := HTv.out.lt
      omega⟩
    have HX6 : Hid (∀ b, X6 b → w.heap.size ≤ b ∧ b ≠ gb ∧ b ≠ gb + 1 ∧ b ≠ T ∧ b ≠ D) := Lib.hid (fun b h => by
      rcases (hx6 b).1 h with h | h
      · have h1 := HXg.out b h; have h2 := HXT.out b h; have h3 := HX1.out b h; omega
      · have h1 := hrf b h; have h2 := HTv.out.lt; have h3 := HBv.out.size; have h4 := HTw.out.2; omega)
    have HW6 := Lib.hid (HWx.out.widen hb6 (X' := X6) (fun b h => ((hx6 b).1 h).imp id (fun h => hrf b h)))
    have HB6 := Lib.hid (HBv.out.trans (hb6.mono HBv.out.size))
    have HG6 := Lib.hid (HGv.out.below hb6 HGv.out.lt)
    have HP6 := Lib.hid (HPv.out.below hb6 HPv.out.lt)
    have HT6 := Lib.hid (HTv.out.below hb6 HTv.out.lt)
    have HD6 : Hid (V1.heap[D]? = some (.deferred (some []))) := Lib.hid ((hb6.block D hDl).trans HDef.out)
    have hDl6 : D < V1.heap.size := Nat.lt_of_lt_of_le hDl hb6.size
    clear hb6 hrc hrf hX6 hx6 q0 q1 q2 HNew HCx HWx HBv HGv HPv HTv HDef hDl
    go_wp2_with fail
    go_loopw [23] (fun i wr => ∃ k : Nat, k ≤ m2 ∧ i = .int .i64 k ∧ Hid (∃ c', Tw wr X6 o c' r2 ∧ Kd d3 c' fun j => j ≠ n) ∧ Hid (Kp X6 V1 wr)) (fun i _ => m2 - (intOf i).toNat)
    case atStart => exact ⟨0, by omega, rfl, Lib.hid ⟨_, HTw6.out, Kd.refl _ _⟩, Lib.hid (Kp.refl _ _)⟩
    case round =>
      obtain ⟨k, hk, rfl, hT, hKp⟩ := hrel
      have hBr := HB6.out.trans (hKp.out.below (fun b h => (HX6.out b h).1) HB6.out.size)
      have HBr := Lib.hid hBr
      clear hBr
      by_cases hlt : k < m2
      · have kl : (k : Int) < (m2 : Int) := by omega
        have k0 : (0 : Int) ≤ (k : Int) := by omega
        have hkl : k < ol2.length := by have := HM2.out; omega
        obtain ⟨b, off, rfl, hoz⟩ := (HOl2.out.below (w' := wr) HBr.out).at hkl
        obtain ⟨c0, c1, c2', -, -⟩ := id hoz
        obtain ⟨b', off', hbo, hoz0⟩ := HOl2.out.at hkl
        injection hbo with hbo
        injection hbo with e1 e2 e3
        subst e1 e2
        obtain ⟨A3, c3, A4, c4, z3, hr3, z4, hf4⟩ := hoz0.vals
        have z3r := (HBr.out.cell (block_lt_of_cell z3)).trans z3
        have z4r := (HBr.out.cell (block_lt_of_cell z4)).trans z4
        have hsy := HSm.out _ (List.getElem_mem hkl)
        rw [← getElem!_pos ol2 k hkl] at hsy
        have HSy := Lib.hid hsy
        have HR3 := Lib.hid ((hr3.outX (X := X6) (fun b h => (HX6.out b h).1)).belowX HBr.out)
        have HF4 := Lib.hid ((hf4.outX (X := X6) (fun b h => (HX6.out b h).1)).belowX HBr.out)
        clear hoz hoz0 z3 z4 hr3 hf4 hsy hkl
        generalize ol2[k]! = y at c0 c1 c2' z3r z4r HSy HR3 HF4
        obtain ⟨m3, h3⟩ : ∃ n, y.b.length = n := ⟨_, rfl⟩
        obtain ⟨m4, h4⟩ : ∃ n, y.fl.length = n := ⟨_, rfl⟩
        have H3 := Lib.hid h3
        have H4 := Lib.hid h4
        rw [h3] at z3r
        rw [h4] at z4r HF4
        have HKp := Lib.hid hKp.out
        obtain ⟨c', ht, hkd⟩ := hT.out
        have HKd := Lib.hid hkd
        clear hkd
        by_cases e1 : y.kind = 2
        · have t1 : (y.kind == 2) = true := beq_iff_eq.2 e1
          by_cases e2 : y.block = (n : Int)
          · have t2 : (y.block == (n : Int)) = true := beq_iff_eq.2 e2
            clear e1 e2 ht h3 h4
            go_wp2
            go_roundw
            case rel => exact ⟨k + 1, by omega, by go_num, hT, hKp⟩
            case measure => simp [intOf]; omega
          have t2 : (y.block == (n : Int)) = false := beq_eq_false_iff_ne.2 e2
          have HSk : Hid (∀ j : Nat, y.kind = 2 ∧ (j : Int) = y.block → j ≠ n) := Lib.hid (fun j h e => e2 (by rw [← h.2, e]))
          clear e1 e2
          have HP := Lib.hid (plays_any ht y A3 m3 c3 A4 m4 c4 HR3.out h3 HF4.out h4 HSy.out)
          have hop : o.p = .pointer (some ⟨o.bc, 0, none⟩) := rfl
          rw [hop] at HP
          clear ht h3 h4 hop hT hKp
          go_wp2_with fail
          refine HP.out.mono ?_
          rintro e w7 ⟨⟨bb, rfl⟩, ⟨c'', ht', hkd'⟩, hkp'⟩
          have HT7 : Hid (∃ c', Tw w7 X6 o c' r2 ∧ Kd d3 c' fun j => j ≠ n) := Lib.hid ⟨c'', ht', HKd.out.trans (hkd'.mono HSk.out)⟩
          have HK7 := Lib.hid (HKp.out.trans hkp')
          clear ht' hkd' hkp' c0 c1 c2' z3r z4r
          go_wp2
          go_roundw
          case rel => exact ⟨k + 1, by omega, by go_num, HT7, HK7⟩
          case measure => simp [intOf]; omega
        · have t1 : (y.kind == 2) = false := beq_eq_false_iff_ne.2 e1
          have HSk : Hid (∀ j : Nat, y.kind = 2 ∧ (j : Int) = y.block → j ≠ n) := Lib.hid (fun j h e => e1 h.1)
          clear e1
          have HP := Lib.hid (plays_any ht y A3 m3 c3 A4 m4 c4 HR3.out h3 HF4.out h4 HSy.out)
          have hop : o.p = .pointer (some ⟨o.bc, 0, none⟩) := rfl
          rw [hop] at HP
          clear ht h3 h4 hop hT hKp
          go_wp2_with fail
          refine HP.out.mono ?_
          rintro e w7 ⟨⟨bb, rfl⟩, ⟨c'', ht', hkd'⟩, hkp'⟩
          have HT7 : Hid (∃ c', Tw w7 X6 o c' r2 ∧ Kd d3 c' fun j => j ≠ n) := Lib.hid ⟨c'', ht', HKd.out.trans (hkd'.mono HSk.out)⟩
          have HK7 := Lib.hid (HKp.out.trans hkp')
          clear ht' hkd' hkp' c0 c1 c2' z3r z4r
          go_wp2
          go_roundw
          case rel => exact ⟨k + 1, by omega, by go_num, HT7, HK7⟩
          case measure => simp [intOf]; omega
      · have kl : ¬ (k : Int) < (m2 : Int) := by omega
        obtain ⟨c', ht, hkd⟩ := hT.out
        have HWr := Lib.hid (HW6.out.kp hKp.out (fun _ g => g))
        have HPr := Lib.hid (HP6.out.kp hKp.out (fun g => (HX6.out _ g).2.2.1 rfl))
        have HTr := Lib.hid (HT6.out.kp hKp.out (fun g => (HX6.out _ g).2.2.2.1 rfl))
        have HDr : Hid (wr.heap[D]? = some (.deferred (some []))) := Lib.hid ((hKp.out.block D hDl6 (fun g => (HX6.out _ g).2.2.2.2 rfl)).trans HD6.out)
        have HSt := Lib.hid (start_any ht.a)
        have hop2 : o.p = .pointer (some ⟨o.bc, 0, none⟩) := rfl
        rw [hop2] at HSt
        have HIn : Hid (∀ b, o.F c'.nb b → X6 b) := Lib.hid ht.a.inX
        have HKd := Lib.hid hkd
        clear hkd ht hT hKp hop2
        go_wp2_with fail
        refine HSt.out.mono ?_
        rintro e w8 ⟨rfl, hc8, hk8⟩
        obtain ⟨d8, hd8⟩ : ∃ d8 : Ch, { c' with up := true } = d8 := ⟨_, rfl⟩
        have hn8 : d8.nb = c'.nb ∧ d8.np = c'.np ∧ d8.sz = c'.sz ∧ d8.up = true ∧ d8.pg = c'.pg := by rw [← hd8]; exact ⟨rfl, rfl, rfl, rfl, rfl⟩
        rw [hd8] at hc8
        have HB8 := Lib.hid (HBr.out.trans (hk8.below (fun b h => (HX6.out b (HIn.out b h)).1) HBr.out.size))
        have HW8 := Lib.hid (HWr.out.kp hk8 HIn.out)
        have HP8 := Lib.hid (HPr.out.kp hk8 (fun g => (HX6.out _ (HIn.out _ g)).2.2.1 rfl))
        have HT8 := Lib.hid (HTr.out.kp hk8 (fun g => (HX6.out _ (HIn.out _ g)).2.2.2.1 rfl))
        have hDlr : D < wr.heap.size := (Array.getElem?_eq_some_iff.1 HDr.out).1
        have HD8 : Hid (w8.heap[D]? = some (.deferred (some []))) := Lib.hid ((hk8.block D hDlr (fun g => (HX6.out _ (HIn.out _ g)).2.2.2.2 rfl)).trans HDr.out)
        have hre7 : reE d8 n = 0 := by
          unfold reE
          rw [hn8.2.2.2.1, hn8.1, HKd.out.1, HN3.out.1]
          simp only [if_true]
          rw [if_neg (by omega)]
        have hre8 : rpE d8 n q = 0 := by
          unfold rpE
          rw [hre7, if_pos rfl, hn8.2.1, HKd.out.2.1, HN3.out.2.1, if_neg (by omega)]
        have HRd := Lib.hid (read_yes hc8 n q hre8)
        have HIn8 : Hid (∀ b, o.F d8.nb b → X6 b) := Lib.hid (fun b h => HIn.out b (by rw [← hn8.1]; exact h))
        have HPg8 : Hid (∀ l, d3.pg n q = some l → d8.pg n q = some l) := Lib.hid (fun l h => by rw [hn8.2.2.2.2]; exact HKd.out.2.2.2 n q l (fun g => g rfl) h)
        have hop2 : o.p = .pointer (some ⟨o.bc, 0, none⟩) := rfl
        rw [hop2] at HRd
        have p0 : w8.cell? ⟨gb + 1, 0, none⟩ = some (.int .i64 q) := HP8.out.cell 0
        clear hc8 hk8 hd8 hn8 hre8 hre7 hop2 HSt HWr HPr HTr HDr
        go_wp2_with fail
        refine HRd.out.mono ?_
        rintro e w9 ⟨⟨g9, c9, rfl, hc9, hg9, hr9, hl9⟩, -, hk9⟩
        have HB9 := Lib.hid (HB8.out.trans (hk9.below (fun b h => (HX6.out b (HIn8.out b h)).1) HB8.out.size))
        have HW9 := Lib.hid (HW8.out.kp hk9 HIn8.out)
        have HT9 := Lib.hid (HT8.out.kp hk9 (fun g => (HX6.out _ (HIn8.out _ g)).2.2.2.1 rfl))
        have hDl8 : D < w8.heap.size := (Array.getElem?_eq_some_iff.1 HD8.out).1
        have HD9 : Hid (w9.heap[D]? = some (.deferred (some []))) := Lib.hid ((hk9.block D hDl8 (fun g => (HX6.out _ (HIn8.out _ g)).2.2.2.2 rfl)).trans HD8.out)
        have HSa := Lib.hid (same_any (some ⟨gw, 0, none⟩) (some ⟨g9, 0, none⟩) cw c9 (d2.sz + 32) (d8.sz + 32) (rdL d2 n q) (rdL d8 n q) w9 HW9.out.1 hr9 (by have := HLw.out; rw [HN3.out.2.2.1] at this; exact this) hl9)
        have HEq : Hid (pgm = true → decide (rdL d2 n q = rdL d8 n q) = true) := Lib.hid (fun h => by
          have h1 := HPgm.out h
          cases hp : d3.pg n q with
          | none => exact absurd hp h1
          | some l =>
            have h2 := HPg8.out l hp
            have h3 : d2.pg n q = some l := by rw [← HN3.out.2.2.2.2]; exact hp
            unfold rdL
            rw [h2, h3]
            simp)
        have ct : w9.cell? ⟨T, 0, none⟩ = some (.bool pgm) := HT9.out.cell 0
        clear hc9 hg9 hr9 hl9 hk9 p0 HRd
        cases pgm
        · clear HEq HSa
          go_wp2_with fail
          refine (HKn.out _).mono ?_
          rintro e wE ⟨rfl, hbE⟩
          have HBE := Lib.hid (HB9.out.trans (hbE.mono HB9.out.size))
          have hDE := (hbE.block D (Array.getElem?_eq_some_iff.1 HD9.out).1).trans HD9.out
          have HDE := Lib.hid hDE
          clear hDE hbE
          go_wp2_with fail
          refine ⟨by simp, .inl ⟨_, _, rfl, run_takeDeferred HDE.out, ?_⟩⟩
          refine ⟨.bool true, by simp [results, Try.results4, go_sem], ?_⟩
          exact ⟨rfl, HBE.out.trans (belowK_b (w := w) (Nat.le_refl _) wE D _ _ (by have := HTw.out.1; omega) HDE.out rfl rfl)⟩
        · have heq := HEq.out rfl
          rw [heq] at HSa
          clear heq HEq
          go_wp2_with fail
          refine HSa.out.mono ?_
          rintro e w' ⟨rfl, rfl⟩
          go_wp2_with fail
          refine (HKn.out _).mono ?_
          rintro e wE ⟨rfl, hbE⟩
          have HBE := Lib.hid (HB9.out.trans (hbE.mono HB9.out.size))
          have hDE := (hbE.block D (Array.getElem?_eq_some_iff.1 HD9.out).1).trans HD9.out
          have HDE := Lib.hid hDE
          clear hDE hbE
          go_wp2_with fail
          refine ⟨by simp, .inl ⟨_, _, rfl, run_takeDeferred HDE.out, ?_⟩⟩
          refine ⟨.bool true, by simp [results, Try.results4, go_sem], ?_⟩
          exact ⟨rfl, HBE.out.trans (belowK_b (w := w) (Nat.le_refl _) wE D _ _ (by have := HTw.out.1; omega) HDE.out rfl rfl)⟩

end Go.Proofs.Ytjpiaanpkpjpcaa
