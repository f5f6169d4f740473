/-
  The statement on a row that is turned round.
-/
import Derived.Test.YtoakgogngcmneaaGcTurn
import Derived.Test.YtoakgogngcmneaaAmong
import Derived.Deep.RegionHeld3
namespace Go.Proofs.Ytoakgogngcmneaa
open Go.RowKit Gcm Go.ChangeShapes

theorem own_below4 {w w' : World} {base k : Nat} {v : Value} {xs : List Value} (h : w.ownsRow base 60 4 v k xs) (hb : Below w.heap.size w w') : w'.ownsRow base 60 4 v k xs := by
  obtain ⟨h1, h2⟩ := h
  refine ⟨h1, ?_⟩
  rcases h2 with h2 | ⟨g, cap, cur, e, hg, hh, r⟩
  · exact .inl h2
  · have hB : Blk w g 60 cur := hh
    exact .inr ⟨g, cap, cur, e, hg, hB.below hb hB.lt, r⟩

set_option maxRecDepth 100000 in
set_option maxHeartbeats 40000000 in
theorem gcTurns_walk (a : Option Addr) (n cap : Nat) (z : List Bk) (p : Int) (room : Bool) (w : World) (hz : RowG w a n cap z) (_hp : (Lit.int .i64 p).wf = true) :
    Calls Try.prog 14 #[.slice a n cap, .int .i64 p, .bool room] w fun e w' => e = .returned (.bool true) ∧ Below w.heap.size w w' := by
  obtain ⟨l, hl, -, hr⟩ := hz.rg
  have HLo := Lib.hid (fun w => long_any n a cap w)
  clear hz _hp
  by_cases hlong : 150 < n
  · have t0 : decide (150 < n) = true := decide_eq_true hlong
    rw [t0] at HLo
    clear hlong t0 hr hl
    go_enter Try.func14, Try.ntmps14
    go_wp2_with fail
    refine (HLo.out _).mono ?_
    rintro e w' ⟨rfl, rfl⟩
    go_wp2_with fail
    refine (known_any _).mono ?_
    rintro e w' ⟨rfl, hb⟩
    go_wp2
    go_ret
    exact ⟨rfl, hb⟩
  have t0 : decide (150 < n) = false := decide_eq_false hlong
  rw [t0] at HLo
  have n1 : n ≤ 150 := by omega
  have HR := Lib.hid hr
  have HL := Lib.hid hl
  clear hlong t0 hr hl
  go_enter Try.func14, Try.ntmps14
  go_wp2_with fail
  refine (HLo.out _).mono ?_
  rintro e w' ⟨rfl, rfl⟩
  clear HLo
  go_wp2_with fail
  go_loopw [7, 8] (fun s7 s8 wr => ∃ k : Nat, k ≤ n ∧ s8 = .int .i64 ((n : Int) - 1 - k) ∧ Hid (wr.ownsRow w.heap.size 60 4 s7 k (flat (l.reverse.take k))) ∧ Hid (Below w.heap.size w wr)) (fun _ s8 _ => (intOf s8 + 1).toNat)
  case atStart => exact ⟨0, by omega, by go_num, Lib.hid (World.ownsRow_nil _ _ _ _), Lib.hid (Below.refl _ _)⟩
  case round =>
    obtain ⟨k, hk, rfl, hO, hB⟩ := hrel
    by_cases hlt : k < n
    · obtain ⟨j, hj⟩ : ∃ j : Nat, n - 1 - k = j := ⟨_, rfl⟩
      have hji : (n : Int) - 1 - k = (j : Int) := by omega
      have hjn : j < n := by omega
      have hjl : j < l.length := by rw [HL.out]; exact hjn
      rw [hji]
      rcases HR.out.2.2 with rfl | ⟨b, off, rfl, hc⟩
      · simp at hjl
      obtain ⟨c0, c1, c2, c3⟩ := at_below (hc j hjl) hB.out
      have HT := Lib.hid (rev_take l k n HL.out hlt)
      rw [hj] at HT
      generalize l[j]! = y at HT c0 c1 c2 c3
      obtain ⟨st, lv, wr', nx⟩ := y
      dsimp only at c0 c1 c2 c3
      have hbx : Below wr.heap.size wr (wr.alloc (.cells #[.int .i64 st, .int .i64 lv, .int .i64 wr', .int .i64 nx] 60)) := (Below.refl _ _).alloc (Nat.le_refl _) _
      have HBX := Lib.hid (hB.out.trans (hbx.mono hB.out.size))
      have HOX := Lib.hid (own_below4 hO.out hbx)
      have ji : (j : Int) < (n : Int) := by omega
      have ji0 : (0 : Int) ≤ (j : Int) := by omega
      have tj : decide ((0 : Int) ≤ (j : Int)) = true := decide_eq_true ji0
      clear hc hbx hjl
      go_wp2_with (at_builtin; refine append_block rfl _ _ rfl w.heap.size _ k (l.reverse.take k) rfl HOX.out wr.heap.size 1 ⟨st, lv, wr', nx⟩ rfl (by omega) ⟨new_cell rfl, new_cell rfl, new_cell rfl, new_cell rfl⟩ HBX.out.size ?_)
      intro v' w2 hown2 hb2
      rw [← HT.out] at hown2
      have HO2 := Lib.hid hown2
      have HB2 := Lib.hid (HBX.out.trans hb2)
      clear hown2 hb2 HOX HBX HT
      go_wp2
      go_roundw
      case rel => exact ⟨k + 1, by omega, by rw [show (n : Int) - 1 - ((k + 1 : Nat) : Int) = (j : Int) - 1 by omega], HO2, HB2⟩
      case measure => simp [intOf]
    · have hkn : k = n := by omega
      subst hkn
      have hO2 := hO.out
      rw [List.take_of_length_le (by rw [List.length_reverse, HL.out]; exact Nat.le_refl _)] at hO2
      obtain ⟨am, cm, rfl, hRm, hLm⟩ := own_rg hO2 (fun x hx => HR.out.1 x ((mem_rev l x).2 hx))
      have RM := Lib.hid hRm
      have LM := Lib.hid hLm
      have N1 := Lib.hid (fun W (hb : Below w.heap.size w W) => next_any l a cap k p room W (HR.out.below hb) HL.out)
      have N2 := Lib.hid (fun W (hb : Below wr.heap.size wr W) => next_any l.reverse am cm k p room W (RM.out.below hb) LM.out)
      have ti : decide ((0 : Int) ≤ (k : Int) - 1 - (k : Int)) = false := decide_eq_false (by omega)
      have tm : (k : Int) - 1 - (k : Int) = -1 := by omega
      rw [tm]
      clear hO2 hRm hLm hO hlt hk ti tm
      rcases nxt_turn l p room with ⟨e1, e2⟩ | ⟨kd, q, r, hk1, hq, hr2, e1, e2, hst⟩
      · rw [e1] at N1
        rw [e2] at N2
        unfold av at N1 N2
        clear e1 e2
        go_wp2_with fail
        refine (N1.out _ hB.out).mono ?_
        rintro e w3 ⟨rfl, hb3⟩
        have K3 := Lib.hid hb3
        clear hb3
        go_wp2_with fail
        refine (N2.out _ K3.out).mono ?_
        rintro e w4 ⟨rfl, hb4⟩
        have K4 := Lib.hid (K3.out.trans (hb4.mono K3.out.size))
        clear hb4
        go_wp2_with fail
        refine (known_any _).mono ?_
        rintro e w' ⟨rfl, hb⟩
        have K5 := Lib.hid ((K4.out.alloc K4.out.size (.cells #[.int .i64 0, .int .i64 (-1)] 49)).alloc (Nat.le_trans K4.out.size (by simp)) (.cells #[.int .i64 0, .int .i64 (-1)] 49))
        go_wp2
        go_ret
        exact ⟨rfl, hB.out.trans ((K5.out.trans (hb.mono K5.out.size)).mono hB.out.size)⟩
      · rw [e1] at N1
        rw [e2] at N2
        unfold av at N1 N2
        dsimp only at N1 N2
        have hql : q < k := by rw [← HL.out]; exact hq
        have hrl : r < k := by rw [← HL.out]; exact hr2
        have d0 : (kd == 0) = false := by simp; omega
        clear e1 e2 hk1
        by_cases h3 : kd = 3
        · subst h3
          clear hst
          go_wp2_with fail
          refine (N1.out _ hB.out).mono ?_
          rintro e w3 ⟨rfl, hb3⟩
          have K3 := Lib.hid hb3
          clear hb3
          go_wp2_with fail
          refine (N2.out _ K3.out).mono ?_
          rintro e w4 ⟨rfl, hb4⟩
          have K4 := Lib.hid (K3.out.trans (hb4.mono K3.out.size))
          clear hb4
          go_wp2_with fail
          refine (known_any _).mono ?_
          rintro e w' ⟨rfl, hb⟩
          have K5 := Lib.hid ((K4.out.alloc K4.out.size (.cells #[.int .i64 3, .int .i64 q] 49)).alloc (Nat.le_trans K4.out.size (by simp)) (.cells #[.int .i64 3, .int .i64 r] 49))
          go_wp2
          go_ret
          exact ⟨rfl, hB.out.trans ((K5.out.trans (hb.mono K5.out.size)).mono hB.out.size)⟩
        · obtain ⟨s1, s2, s3⟩ := hst h3
          have d3 : (kd == 3) = false := by simp [h3]
          have HA := Lib.hid (fun (i : Nat) (h : i < k) W => among_in i k h (by omega) W)
          rcases HR.out.2.2 with rfl | ⟨b, off, rfl, hc⟩
          · simp at hq
          rcases RM.out.2.2 with hnil | ⟨b2, o2, rfl, hc2⟩
          · rw [hnil] at LM; have := LM.out; simp at this; omega
          have cq := hc q hq
          have cr := hc2 r (by rw [LM.out]; exact hrl)
          generalize l[q]! = y1 at s1 s2 s3 cq
          generalize l.reverse[r]! = y2 at s1 s2 s3 cr
          obtain ⟨st, lv, wr1, nx1⟩ := y1
          obtain ⟨st2, lv2, wr2, nx2⟩ := y2
          dsimp only at s1 s2 s3
          subst s1 s2 s3
          have CQ := Lib.hid cq
          have CR := Lib.hid cr
          clear hst h3 hc hc2 cq cr hq hr2
          go_wp2_with fail
          refine (N1.out _ hB.out).mono ?_
          rintro e w3 ⟨rfl, hb3⟩
          have K3 := Lib.hid hb3
          clear hb3
          go_wp2_with fail
          refine (N2.out _ K3.out).mono ?_
          rintro e w4 ⟨rfl, hb4⟩
          have K4 := Lib.hid (K3.out.trans (hb4.mono K3.out.size))
          clear hb4 N1 N2
          have A1 : At w4 b (off + q * 4) ⟨st, lv, wr1, nx1⟩ := at_below CQ.out (hB.out.trans (K4.out.mono hB.out.size))
          have A2 : At w4 b2 (o2 + r * 4) ⟨st, lv, wr1, nx2⟩ := at_below CR.out K4.out
          have hbW : Below w4.heap.size w4 ((w4.alloc (.cells #[.int .i64 kd, .int .i64 q] 49)).alloc (.cells #[.int .i64 kd, .int .i64 r] 49)) := ((Below.refl _ w4).alloc (Nat.le_refl _) _).alloc (by simp) _
          have x0 : ((w4.alloc (.cells #[.int .i64 kd, .int .i64 q] 49)).alloc (.cells #[.int .i64 kd, .int .i64 r] 49)).cell? ⟨w4.heap.size, 1, none⟩ = some (.int .i64 q) := old_cell (new_cell rfl)
          have x1 : ((w4.alloc (.cells #[.int .i64 kd, .int .i64 q] 49)).alloc (.cells #[.int .i64 kd, .int .i64 r] 49)).cell? ⟨w4.heap.size + 1, 1, none⟩ = some (.int .i64 r) := by
            have := new_cell (w := w4.alloc (.cells #[.int .i64 kd, .int .i64 q] 49)) (cs := #[.int .i64 kd, .int .i64 r]) (t := 49) (j := 1) (v := .int .i64 r) rfl
            rwa [show (w4.alloc (.cells #[.int .i64 kd, .int .i64 q] 49)).heap.size = w4.heap.size + 1 by simp] at this
          have M1 := at_below A1 hbW
          have M2 := at_below A2 hbW
          have KW := Lib.hid (K4.out.trans (hbW.mono K4.out.size))
          have qi : (q : Int) < (k : Int) := by omega
          have qi0 : (0 : Int) ≤ (q : Int) := by omega
          have ri : (r : Int) < (k : Int) := by omega
          have ri0 : (0 : Int) ≤ (r : Int) := by omega
          go_wp2_with fail
          generalize (w4.alloc (.cells #[.int .i64 kd, .int .i64 q] 49)).alloc (.cells #[.int .i64 kd, .int .i64 r] 49) = W at hbW x0 x1 M1 M2 KW ⊢
          have SS := Lib.hid (fun w' (h : Below W.heap.size W w') => (⟨(h.cell (block_lt_of_cell x0)).trans x0, (h.cell (block_lt_of_cell x1)).trans x1, (at_below M1 h).1, (at_below M1 h).2.1, (at_below M1 h).2.2.1, (at_below M1 h).2.2.2, (at_below M2 h).1, (at_below M2 h).2.1, (at_below M2 h).2.2.1, (at_below M2 h).2.2.2, h⟩ :
            w'.cell? ⟨w4.heap.size, 1, none⟩ = some (.int .i64 q) ∧ w'.cell? ⟨w4.heap.size + 1, 1, none⟩ = some (.int .i64 r) ∧
            w'.cell? ⟨b, off + q * 4, none⟩ = some (.int .i64 st) ∧ w'.cell? ⟨b, off + q * 4 + 1, none⟩ = some (.int .i64 lv) ∧ w'.cell? ⟨b, off + q * 4 + 2, none⟩ = some (.int .i64 wr1) ∧ w'.cell? ⟨b, off + q * 4 + 3, none⟩ = some (.int .i64 nx1) ∧
            w'.cell? ⟨b2, o2 + r * 4, none⟩ = some (.int .i64 st) ∧ w'.cell? ⟨b2, o2 + r * 4 + 1, none⟩ = some (.int .i64 lv) ∧ w'.cell? ⟨b2, o2 + r * 4 + 2, none⟩ = some (.int .i64 wr1) ∧ w'.cell? ⟨b2, o2 + r * 4 + 3, none⟩ = some (.int .i64 nx2) ∧ Below W.heap.size W w'))
          clear A1 A2 hbW x0 x1 M1 M2 CQ CR K3 K4
          go_region_held3 (fun w' => w'.cell? ⟨w4.heap.size, 1, none⟩ = some (.int .i64 q) ∧ w'.cell? ⟨w4.heap.size + 1, 1, none⟩ = some (.int .i64 r) ∧
            w'.cell? ⟨b, off + q * 4, none⟩ = some (.int .i64 st) ∧ w'.cell? ⟨b, off + q * 4 + 1, none⟩ = some (.int .i64 lv) ∧ w'.cell? ⟨b, off + q * 4 + 2, none⟩ = some (.int .i64 wr1) ∧ w'.cell? ⟨b, off + q * 4 + 3, none⟩ = some (.int .i64 nx1) ∧
            w'.cell? ⟨b2, o2 + r * 4, none⟩ = some (.int .i64 st) ∧ w'.cell? ⟨b2, o2 + r * 4 + 1, none⟩ = some (.int .i64 lv) ∧ w'.cell? ⟨b2, o2 + r * 4 + 2, none⟩ = some (.int .i64 wr1) ∧ w'.cell? ⟨b2, o2 + r * 4 + 3, none⟩ = some (.int .i64 nx2) ∧ Below W.heap.size W w')
            ((refine SS.out _ ?_; go_split_ands; first | assumption | exact (Below.refl _ W).drew | exact ((Below.refl _ W).alloc (Nat.le_refl _) _).drew | exact (((Below.refl _ W).alloc (Nat.le_refl _) _).alloc (by simp) _).drew | exact Below.drew (by assumption) | exact Below.alloc (by assumption) (Below.size (by assumption)) _ | exact Below.setCell (Below.setCell (Below.setCell (Below.setCell (by assumption) (by simp) _) (by simp) _) (by simp) _) (by simp) _))
            (first | (go_at_call 27; refine (HA.out _ ?_ _).mono ?_; assumption; rintro e w' ⟨rfl, rfl⟩))
          all_goals
            go_split_ands
            go_wp2_with fail
            refine (known_any _).mono ?_
            rintro e w' ⟨rfl, hb⟩
            go_wp2
            go_ret
            exact ⟨rfl, hB.out.trans ((KW.out.trans ((Below.trans (by assumption) (hb.mono (Below.size (by assumption)))).mono KW.out.size)).mono hB.out.size)⟩
end Go.Proofs.Ytoakgogngcmneaa
