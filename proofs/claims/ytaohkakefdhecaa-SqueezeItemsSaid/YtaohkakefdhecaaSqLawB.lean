/-
  The law SqueezeDoes.
-/
import Derived.Test.YtaohkakefdhecaaSqLawA
import Derived.Test.YtaohkakefdhecaaSqRefSq
namespace Sqm
theorem seg_snoc {l : List Int} {b k : Nat} (hb : b ≤ k) (hk : k < l.length) : seg l b (k + 1) = seg l b k ++ [l.getD k 0] := by
  unfold seg
  rw [show k + 1 - b = (k - b) + 1 by omega, List.take_add_one, List.getElem?_drop, show b + (k - b) = k by omega, List.getD_eq_getElem?_getD, List.getElem?_eq_getElem hk]
  rfl
theorem seg_nil (l : List Int) (b : Nat) : seg l b b = [] := by unfold seg; simp
theorem seg_all {l : List Int} {b : Nat} : seg l b l.length = l.drop b := by unfold seg; rw [List.take_of_length_le (by rw [List.length_drop]; omega)]
theorem seg_len {l : List Int} {b k : Nat} (hk : k ≤ l.length) : (seg l b k).length = k - b := by unfold seg; rw [List.length_take, List.length_drop]; omega
end Sqm
namespace Go.Proofs.Ytaohkakefdhecaa
open Go.RowKit Go.Shelf Crcm Sqm Tagm Inom Roomm Go.ChangeShapes

set_option maxRecDepth 100000 in
theorem squeeze_no (a : Option Addr) (m c : Nat) (w : World) (h : 65536 < m) :
    Calls Try.prog 10 #[.slice a m c] w fun e w' => Od e w' [] 2 ∧ Below w.heap.size w w' := by
  have f0 : decide ((65536 : Int) < (m : Int)) = true := by simp; omega
  go_enter Try.func10, Try.ntmps10
  go_wp2
  go_ret2
  exact ⟨⟨none, 0, rfl, nil_rw _⟩, by repeat (first | exact Below.refl _ _ | refine Below.alloc ?_ (by (try simp) <;> omega) _ | refine Below.setCell ?_ (by (try simp) <;> omega) _)⟩
set_option maxRecDepth 100000 in
theorem rsqueeze_no (a : Option Addr) (m c : Nat) (w : World) (h : 65536 < m) :
    Calls Try.prog 11 #[.slice a m c] w fun e w' => Od e w' [] 2 ∧ Below w.heap.size w w' := by
  have f0 : decide ((65536 : Int) < (m : Int)) = true := by simp; omega
  go_enter Try.func11, Try.ntmps11
  go_wp2
  go_ret2
  exact ⟨⟨none, 0, rfl, nil_rw _⟩, by repeat (first | exact Below.refl _ _ | refine Below.alloc ?_ (by (try simp) <;> omega) _ | refine Below.setCell ?_ (by (try simp) <;> omega) _)⟩

theorem rn_U8 {l : List Int} (h : ∀ n ∈ l, U8 n) : ∀ k, ∀ n ∈ rn l k, U8 n
  | 0 => fun n hn => by simp [rn] at hn
  | k + 1 => fun n hn => by
    rw [rn] at hn
    rcases List.mem_append.1 hn with hn | hn
    · exact rn_U8 h k n hn
    · rcases List.mem_cons.1 hn with rfl | hn
      · unfold U8 bln; split <;> omega
      · exact h n (by unfold ck at hn; exact List.mem_of_mem_drop (List.mem_of_mem_take hn))
theorem seg_U8 {l : List Int} (h : ∀ n ∈ l, U8 n) (i j : Nat) : ∀ n ∈ seg l i j, U8 n := fun n hn => h n (by unfold seg at hn; exact List.mem_of_mem_drop (List.mem_of_mem_take hn))

set_option maxRecDepth 100000 in
set_option maxHeartbeats 4000000 in
theorem rsqueeze_yes (a : Option Addr) (m c : Nat) (l : List Int) (w : World) (hr : Rw w a l) (hl : l.length = m) (hmc : m ≤ c) (hm : m ≤ 65536) :
    Calls Try.prog 11 #[.slice a m c] w fun e w' => (∃ A n cap, e = .returned (.tuple #[.slice A n cap, .int .i64 0]) ∧ w'.ownsRow w.heap.size 5 1 (.slice A n cap) n ((sqA l).map (Value.int .u8))) ∧ Below w.heap.size w w' := by
  have hdec : decide ((65536 : Int) < (m : Int)) = false := by simp; omega
  have hmI : (m : Int) ≤ 4611686018427380000 := by omega
  have HM := Lib.hid hm
  have HL := Lib.hid hl
  have HR := Lib.hid hr
  have HMC := Lib.hid hmc
  clear hm hl hr hmc
  go_enter Try.func11, Try.ntmps11
  go_wp2_with fail
  go_loopw [4, 5, 6] (fun s4 s5 s6 wr => ∃ t k no nw : Nat, ∃ A B ca cb, s4 = .slice A no ca ∧ s5 = .slice B nw cb ∧ s6 = .int .i64 (k : Int) ∧ k ≤ m ∧ Hid (k = wk l t) ∧ Hid (wr.ownsRow w.heap.size 5 1 (.slice A no ca) no ((sqz l (cs l t).length).map (Value.int .u8))) ∧ Hid (wr.ownsRow w.heap.size 5 1 (.slice B nw cb) nw ((seg l (bh l (cs l t).length) (wk l t)).map (Value.int .u8))) ∧ Hid ((Value.slice A no ca).ownBlock = none ∨ (Value.slice A no ca).ownBlock ≠ (Value.slice B nw cb).ownBlock) ∧ Hid (Below w.heap.size w wr)) (fun _ _ s6 _ => m - (intOf s6).toNat)
  case atStart => exact ⟨0, 0, 0, 0, none, none, 0, 0, rfl, rfl, rfl, Nat.zero_le _, Lib.hid rfl, Lib.hid (World.ownsRow_nil _ _ _ _), Lib.hid (by rw [show wk l 0 = 0 from rfl, show bh l (cs l 0).length = 0 from rfl, seg_nil]; exact World.ownsRow_nil _ _ _ _), Lib.hid (.inl rfl), Lib.hid (Below.refl _ _)⟩
  case round =>
    obtain ⟨t, k, no, nw, A, B, ca, cb, rfl, rfl, rfl, hkm, hkt, hO, hW, hD, hB⟩ := hrel
    have hno : no = (sqz l (cs l t).length).length := by have := hO.out.1; simpa using this.symm
    have hnw : nw = (seg l (bh l (cs l t).length) (wk l t)).length := by have := hW.out.1; simpa using this.symm
    have hKN : (cs l t).length ≤ (cps l).length := by
      obtain ⟨r, h⟩ := cs_pre l t (l.length + t)
      have h2 : cs l (t + (l.length + t)) = cps l := cs_end (by have := wk_end l; have := wk_mono l l.length (t + t); rw [show l.length + (t + t) = t + (l.length + t) by omega] at this; omega)
      rw [← h2, h, List.length_append]; omega
    have hsl := sqz_len (l := l) _ hKN
    have hbl := bh_le (l := l) (t := t)
    have hwl := wk_le l t
    have hsg := seg_len (l := l) (b := bh l (cs l t).length) hwl
    have hnoM : no ≤ 131072 := by have := HM.out; have := HL.out; omega
    have hnwM : nw ≤ 65536 := by have := HM.out; have := HL.out; omega
    have hU := HR.out.1
    by_cases hlt : k < m
    · obtain ⟨b, off, rfl⟩ := HR.out.addr (by have := HL.out; omega)
      have HBest : Hid (∀ X, Below w.heap.size w X → Calls Try.prog 21 #[.slice (some ⟨b, off, none⟩) m c, .int .i64 (k : Int)] X fun e w' => e = .returned (.tuple #[.int .i64 (cpn l k : Int), .int .i64 (cpd l k : Int)]) ∧ Below X.heap.size X w') := Lib.hid fun X h => rbest_any b off m c k l X (HR.out.below h) HL.out hlt hmI
      have hltI : (k : Int) < (m : Int) := by omega
      by_cases hc0 : cpn l k = 0
      · have t0 : (((cpn l k : Nat) : Int) == 0) = true := by simp [hc0]
        have HWk : Hid (k + 1 = wk l (t + 1)) := Lib.hid (by rw [wk_succ, if_pos (by have := hkt.out; have := HL.out; omega), ← hkt.out, if_pos hc0])
        have HCs : Hid (cs l (t + 1) = cs l t) := Lib.hid (cs_skip (by rw [← hkt.out]; exact hc0))
        have HSg : Hid (seg l (bh l (cs l t).length) (wk l (t + 1)) = seg l (bh l (cs l t).length) (wk l t) ++ [l.getD k 0]) := Lib.hid (by rw [← HWk.out, ← hkt.out]; exact seg_snoc (by have := hkt.out; omega) (by have := HL.out; omega))
        have hx8 : U8 (l.getD k 0) := hU _ (by rw [List.getD_eq_getElem?_getD, List.getElem?_eq_getElem (by have := HL.out; omega : k < l.length)]; exact List.getElem_mem _)
        clear hno hnw hKN hsl hbl hwl hsg hU
        go_wp2_with fail
        refine (HBest.out wr hB.out).mono ?_
        rintro e w1 ⟨rfl, hb1⟩
        have hO1 := own_below hO.out hb1
        have hW1 := own_below hW.out hb1
        have hBw := hB.out.trans (hb1.mono hB.out.size)
        have g0 := (HR.out.below hBw).get (j := k) (by have := HL.out; omega)
        have HO1 := Lib.hid hO1
        have HW1 := Lib.hid hW1
        have HBw := Lib.hid hBw
        generalize l.getD k 0 = x at *
        clear hO1 hW1 hb1 hBw
        go_wp2_with (at_builtin; refine app8 rfl _ _ rfl w.heap.size _ nw _ rfl (HW1.out.alloc _) (some ⟨w1.heap.size, 0, none⟩) 1 1 [x] rfl rfl (rw_one w1 _ hx8).src (by omega) (by have := HBw.out.size; simp; omega) ?_; intro v' w' hown' hb' hg' ho')
        obtain ⟨A2, c2, rfl⟩ := own_slice hown'
        rw [← HSg.out] at hown'
        refine ⟨⟨t + 1, k + 1, no, nw + 1, A, A2, ca, c2, rfl, rfl, by go_num, by omega, HWk, ?_, ?_, ?_, Lib.hid ((HBw.out.alloc HBw.out.size _).trans hb')⟩, ?_⟩
        · rw [HCs.out]; exact Lib.hid ((HO1.out.alloc _).kept hg' hD.out)
        · rw [HCs.out]; exact Lib.hid hown'
        · rcases ho' with h | h
          · rw [h]; exact hD
          · rw [h]; exact Lib.hid (.inr (own_ne (HO1.out.alloc (.cells #[.int .u8 x] 5)) (Nat.le_refl _)))
        · simp [intOf]; omega
      · have t0 : (((cpn l k : Nat) : Int) == 0) = false := by simp [hc0]
        have hlt' : wk l t < l.length := by have := hkt.out; have := HL.out; omega
        have hc0' : cpn l (wk l t) ≠ 0 := by rw [← hkt.out]; exact hc0
        obtain ⟨hkN, hgk, hk1⟩ := cs_at hlt' hc0'
        have HWk : Hid (k + cpn l k = wk l (t + 1)) := Lib.hid (by rw [wk_succ, if_pos hlt', ← hkt.out, if_neg hc0])
        have HSq : Hid (sqz l (cs l (t + 1)).length = sqz l (cs l t).length ++ runs (seg l (bh l (cs l t).length) (wk l t)) ++ [((cpn l k + 125 : Nat) : Int), ((cpd l k % 256 : Nat) : Int), ((cpd l k / 256 : Nat) : Int)]) := Lib.hid (by rw [hk1, sqz, hgk, hkt.out]; rfl)
        have HSg : Hid (seg l (bh l (cs l (t + 1)).length) (wk l (t + 1)) = []) := Lib.hid (by rw [bh_at hlt' hc0']; exact seg_nil _ _)
        obtain ⟨hs3, hs130, hsm, -, hd4, -, -⟩ := cpn_spec hc0
        rw [HL.out] at hsm
        have HU := Lib.hid (seg_U8 hU (bh l (cs l t).length) (wk l t))
        have HRL : Hid ((runs (seg l (bh l (cs l t).length) (wk l t))).length ≤ 131072) := Lib.hid (by rw [runs_len]; have := nbk_le (seg l (bh l (cs l t).length) (wk l t)).length; omega)
        clear hno hnw hKN hsl hbl hwl hsg hU hlt' hc0' hkN hgk hk1 hc0
        generalize cpn l k = n at *
        generalize cpd l k = d at *
        generalize seg l (bh l (cs l t).length) (wk l t) = sg at *
        have hnI : (n : Int) ≤ 130 := by omega
        have hdI : (d : Int) ≤ 4096 := by omega
        go_wp2_with fail
        refine (HBest.out wr hB.out).mono ?_
        rintro e w1 ⟨rfl, hb1⟩
        have HO1 := Lib.hid (own_below hO.out hb1)
        have HBw := Lib.hid (hB.out.trans (hb1.mono hB.out.size))
        obtain ⟨A', cp', he, hRw, hlen, hle⟩ := Rw.of_own (own_below hW.out hb1) HU.out
        injection he with e1 _ e3
        subst e1 e3
        have HRun := Lib.hid (rruns_any nw cb B sg w1 hRw hlen hle hnwM)
        clear hb1 hRw hlen hle
        go_wp2_with fail
        refine HRun.out.mono ?_
        rintro e w2 ⟨⟨A2, n2, c2, rfl, hr2⟩, hb2⟩
        have HO2 := Lib.hid (own_below HO1.out hb2)
        have HB2 := Lib.hid (HBw.out.trans (hb2.mono HBw.out.size))
        obtain ⟨A2', cp2', he2, hRw2, hlen2, -⟩ := Rw.of_own hr2 (fun n hn => rn_U8 HU.out _ n hn)
        injection he2 with e1 _ e3
        subst e1 e3
        have HR2 := Lib.hid hRw2
        have hn2 : n2 ≤ 131072 := by have := HRL.out; omega
        clear hb2 hr2 hRw2
        go_upto_region 12 with (at_builtin; refine app8 rfl _ _ rfl w.heap.size _ no _ rfl HO2.out A2 n2 c2 (runs sg) rfl hlen2 HR2.out.src (by omega) HB2.out.size ?_; intro v3 w3 hown3 hb3 _ _)
        have HO3 := Lib.hid hown3
        have HB3 := Lib.hid (HB2.out.trans hb3)
        have hu3 : ∀ x ∈ [(n : Int) + 125, (d : Int) % 256, (d : Int) / 256], U8 x := by
          intro x hx
          unfold U8
          simp at hx
          rcases hx with rfl | rfl | rfl <;> omega
        have HS3 := Lib.hid ((Blk.rwq (Blk.new w3 5 #[.int .u8 ((n : Int) + 125), .int .u8 ((d : Int) % 256), .int .u8 ((d : Int) / 256)]) hu3 (by simp [maxLen])).src)
        clear hown3 hb3 hu3
        go_wp2_with (at_builtin; refine app8 rfl _ _ rfl w.heap.size _ (no + n2) _ rfl (HO3.out.alloc _) (some ⟨w3.heap.size, 0, none⟩) 3 3 [(n : Int) + 125, (d : Int) % 256, (d : Int) / 256] rfl rfl HS3.out (by omega) (by have := HB3.out.size; simp; omega) ?_; intro v' w' hown' hb' _ _)
        obtain ⟨A3, c3, rfl⟩ := own_slice hown'
        rw [show (n : Int) + 125 = ((n + 125 : Nat) : Int) by omega, show (d : Int) % 256 = ((d % 256 : Nat) : Int) by omega, show (d : Int) / 256 = ((d / 256 : Nat) : Int) by omega, ← HSq.out] at hown'
        refine ⟨⟨t + 1, k + n, no + n2 + 3, 0, A3, none, c3, 0, rfl, rfl, by go_num, hsm, HWk, Lib.hid hown', ?_, Lib.hid ?_, Lib.hid ((HB3.out.alloc HB3.out.size _).trans hb')⟩, ?_⟩
        · rw [HSg.out]; exact Lib.hid (World.ownsRow_nil _ _ _ _)
        · by_cases h : (Value.slice A3 (no + n2 + 3) c3).ownBlock = none
          · exact .inl h
          · exact .inr (fun e => h (e.trans rfl))
        · simp [intOf]; omega
    · have hcs : cs l t = cps l := cs_end (by have := HL.out; have := hkt.out; omega)
      have hwl2 : wk l t = l.length := by have := HL.out; have := hkt.out; omega
      have HE : Hid (sqA l = sqz l (cs l t).length ++ runs (seg l (bh l (cs l t).length) (wk l t))) := Lib.hid (by rw [hcs, hwl2, seg_all]; rfl)
      have HU := Lib.hid (seg_U8 hU (bh l (cs l t).length) (wk l t))
      have HRL : Hid ((runs (seg l (bh l (cs l t).length) (wk l t))).length ≤ 131072) := Lib.hid (by rw [runs_len]; have := nbk_le (seg l (bh l (cs l t).length) (wk l t)).length; omega)
      clear hno hnw hKN hsl hbl hwl hsg hU hcs hwl2
      generalize seg l (bh l (cs l t).length) (wk l t) = sg at *
      obtain ⟨A', cp', he, hRw, hlen, hle⟩ := Rw.of_own hW.out HU.out
      injection he with e1 _ e3
      subst e1 e3
      have HRun := Lib.hid (rruns_any nw cb B sg wr hRw hlen hle hnwM)
      have hltI : ¬ (k : Int) < (m : Int) := by omega
      clear hRw hlen hle
      go_wp2_with fail
      refine HRun.out.mono ?_
      rintro e w2 ⟨⟨A2, n2, c2, rfl, hr2⟩, hb2⟩
      have HO2 := Lib.hid (own_below hO.out hb2)
      have HB2 := Lib.hid (hB.out.trans (hb2.mono hB.out.size))
      obtain ⟨A2', cp2', he2, hRw2, hlen2, -⟩ := Rw.of_own hr2 (fun n hn => rn_U8 HU.out _ n hn)
      injection he2 with e1 _ e3
      subst e1 e3
      have HR2 := Lib.hid hRw2
      have hn2 : n2 ≤ 131072 := by have := HRL.out; omega
      clear hb2 hr2 hRw2
      go_wp2_with (at_builtin; refine app8 rfl _ _ rfl w.heap.size _ no _ rfl HO2.out A2 n2 c2 (runs sg) rfl hlen2 HR2.out.src (by omega) HB2.out.size ?_; intro v3 w3 hown3 hb3 _ _)
      obtain ⟨A3, c3, rfl⟩ := own_slice hown3
      rw [← HE.out] at hown3
      have HO3 := Lib.hid hown3
      have HB3 := Lib.hid (HB2.out.trans hb3)
      clear hown3 hb3
      try go_wp2
      go_ret2
      exact ⟨⟨A3, no + n2, c3, rfl, HO3.out⟩, HB3.out⟩

theorem sqA_U8 {l : List Int} (h : ∀ n ∈ l, U8 n) : ∀ n ∈ sqA l, U8 n := by
  have hs : ∀ k, k ≤ (cps l).length → ∀ n ∈ sqz l k, U8 n := by
    intro k
    induction k with
    | zero => intro _ n hn; simp [sqz] at hn
    | succ k ih =>
      intro hk n hn
      rw [sqz] at hn
      obtain ⟨-, -, hg⟩ := cps_spec (l := l) (k := k) (by omega)
      obtain ⟨-, h130, -, -, h4, -, -⟩ := cpn_spec hg
      rcases List.mem_append.1 hn with hn | hn
      · rcases List.mem_append.1 hn with hn | hn
        · exact ih (by omega) n hn
        · exact rn_U8 (seg_U8 h _ _) _ n hn
      · clear hg ih
        generalize (cps l).getD k 0 = g at *
        unfold cpb at hn
        unfold U8
        simp at hn
        rcases hn with rfl | rfl | rfl <;> omega
  intro n hn
  unfold sqA at hn
  rcases List.mem_append.1 hn with hn | hn
  · exact hs _ (Nat.le_refl _) n hn
  · exact rn_U8 (fun n hn => h n (List.mem_of_mem_drop hn)) _ n hn
theorem squeeze_both (a : Option Addr) (m c : Nat) (l : List Int) (w : World) (hr : Rw w a l) (hl : l.length = m) (hmc : m ≤ c) :
    ∃ (Y : List Int) (E : Int), (Calls Try.prog 10 #[.slice a m c] w fun e w' => Od e w' Y E ∧ Below w.heap.size w w') ∧
      ∀ w', Rw w' a l → Calls Try.prog 11 #[.slice a m c] w' fun e w'' => Od e w'' Y E ∧ Below w'.heap.size w' w'' := by
  by_cases h : 65536 < m
  · exact ⟨[], 2, squeeze_no a m c w h, fun w' _ => rsqueeze_no a m c w' h⟩
  · have key : ∀ (e : Ending) (B : Nat) (w' : World), (∃ A n cap, e = .returned (.tuple #[.slice A n cap, .int .i64 0]) ∧ w'.ownsRow B 5 1 (.slice A n cap) n ((sqA l).map (Value.int .u8))) → Od e w' (sqA l) 0 := by
      rintro e B w' ⟨A, n, cap, rfl, ho⟩
      obtain ⟨A', cp', he, hRw, hn, -⟩ := Rw.of_own ho (sqA_U8 hr.1)
      injection he with e1 _ e3
      subst e1 e3
      subst hn
      exact ⟨A, cap, rfl, hRw⟩
    refine ⟨sqA l, 0, (squeeze_yes a m c l w hr hl hmc (by omega)).mono ?_, fun w' hr' => (rsqueeze_yes a m c l w' hr' hl hmc (by omega)).mono ?_⟩
    · rintro e w' ⟨h1, hb⟩; exact ⟨key e _ w' h1, hb⟩
    · rintro e w'' ⟨h1, hb⟩; exact ⟨key e _ w'' h1, hb⟩

set_option maxRecDepth 100000 in
set_option maxHeartbeats 1000000 in
theorem squeezeDoes_walk (a : Option Addr) (len cap : Nat) (z : List Int) (w : World) (hz : Row8 w a len cap z) :
    Calls Try.prog 3 #[.slice a len cap] w fun e w' => e = .returned (.bool true) ∧ Below w.heap.size w w' := by
  obtain ⟨l, hl, hc, hr, -⟩ := hz.rw
  have hn : len ≤ maxLen := by have := hr.2.1; omega
  have HG0 := lng_any a len cap w hn
  by_cases h : (900 < len ∧ len ≤ 65536) ∨ 70000 < len
  · rw [decide_eq_true h] at HG0
    have HG := Lib.hid HG0
    clear h hn HG0
    go_enter Try.func3, Try.ntmps3
    go_wp2_with fail
    refine HG.out.mono ?_
    rintro e w2 ⟨rfl, rfl⟩
    go_wp2_with fail
    refine (known_any w).mono ?_
    rintro e w2 ⟨rfl, hb⟩
    go_wp2
    go_ret
    exact ⟨rfl, hb⟩
  · rw [decide_eq_false h] at HG0
    have HG := Lib.hid HG0
    obtain ⟨Y, E, h1, h2⟩ := squeeze_both a len cap l w hr hl hc
    have H1 := Lib.hid h1
    have H2 := Lib.hid h2
    have HR := Lib.hid hr
    clear h hn h1 h2 hr HG0
    go_enter Try.func3, Try.ntmps3
    go_wp2_with fail
    refine HG.out.mono ?_
    rintro e w2 ⟨rfl, rfl⟩
    go_wp2_with fail
    refine H1.out.mono ?_
    rintro e w2 ⟨⟨A, c1, rfl, hA⟩, hb⟩
    have HA := Lib.hid hA
    clear hA
    go_wp2_with fail
    refine (H2.out w2 (HR.out.below hb)).mono ?_
    rintro e w3 ⟨⟨B, c2, rfl, hB⟩, hb3⟩
    have HS := Lib.hid (same_any A B c1 c2 _ _ Y Y w3 (HA.out.below hb3) hB rfl rfl)
    rw [decide_eq_true rfl] at HS
    have HB := Lib.hid (bonq hb hb3)
    clear hb hb3 hB HA
    go_wp2_with fail
    refine HS.out.mono ?_
    rintro e w4 ⟨rfl, rfl⟩
    go_wp2_with fail
    refine (known_any w3).mono ?_
    rintro e w4 ⟨rfl, hb4⟩
    go_wp2
    go_ret
    exact ⟨rfl, bonq HB.out hb4⟩
end Go.Proofs.Ytaohkakefdhecaa
