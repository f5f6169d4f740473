/-
  The translation takes its chip's blocks in hand. Nothing of one statement alone stands here.
-/
import Derived.Test.YtbfifppdcmimaaaGreatFtTl
import Derived.Test.YtbfifppdcmimaaaGreatFtRow
import Derived.Test.YtbfifppdcmimaaaGreatKL
import Derived.Test.YtbfifppdcmimaaaGreatKM
import Derived.Test.YtbfifppdcmimaaaGreatKI
import Derived.Deep.RegionHeld3
import Derived.Deep.CutBlock
import Derived.Deep.CutRange
import Derived.Deep.DeepCutAuto
namespace Go.Proofs.YtbfifppdcmimaaaGreat
open Go.RowKit Crcm Gcm Go.ChangeShapes

/-- whether erase counts lie apart -/
def apB (c : Ch) (l : List Bk) : Bool := decide (4 < wrap64 (greatest (wk c.wear l c.nb) - least (wk c.wear l c.nb)))

set_option maxRecDepth 100000 in
set_option maxHeartbeats 4000000 in
theorem fmanage_any {w : World} {X : Nat → Prop} {o : Own} {c : Ch} (hc : ChAt w X o c) (hup : c.up = true) (hwr : ∀ k, k < c.nb → I64 (c.wear k)) (f : Nat → Bool) (lv : Nat → Int) (fb fo c1 lb lo c2 : Nat) (h : FrLv w c.nb c.np f lv fb fo lb lo)
    {F : Nat} {Mv : Value} {res bad cap : Int} {ap st : Bool} {tx : Value} {x1 x2 x3 : Nat} {seq ep : Int} {x4 x5 nb' : Nat} {fl : Value} {bg : Bool} {bk : Int} (hF : Blk w F 58 (ftC o Mv res bad cap ap st tx x1 x2 x3 seq ep x4 x5 nb' fl bg bk)) (hr : 0 ≤ res) (hb : 0 ≤ bad) (hXF : X F) (hoF : ¬ o.F c.nb F) :
    Calls Tryz.prog 29 #[.pointer (some ⟨F, 0, none⟩), .slice (some ⟨fb, fo, none⟩) c.nb c1, .slice (some ⟨lb, lo, none⟩) c.nb c2] w fun e w' => e = .returned (.int .i64 0) ∧ (∃ M m, MgAt w' M m ∧ (m.cp = o.p ∧ m.l = rows c.bad f lv c.nb ∧ m.r = res ∧ m.b = bad ∧ m.ap = apB c (rows c.bad f lv c.nb)) ∧
      Blk w' F 58 (ftC o (.pointer (some ⟨M, 0, none⟩)) res bad cap (apB c (rows c.bad f lv c.nb)) st tx x1 x2 x3 seq ep x4 x5 nb' fl bg bk) ∧ w.heap.size ≤ M ∧ w.heap.size ≤ m.g) ∧ Kp (fun b => b = F) w w' := by
  have hnb : c.nb < 129 := hc.good.2.1
  have hn7 : 7 < c.nb := hc.good.1
  have hnp : c.np < 33 := hc.good.2.2.2.1
  have hFl := hF.lt
  have hbw : ∀ x ∈ wk c.wear (rows c.bad f lv c.nb) c.nb, Bw x := wk_bw _ _ (rows_bw _ _ _ _ (fun k hk => ⟨(h.ok k hk).1, by have := (h.ok k hk).2.1; omega⟩)) _ (by rw [rows_length]; exact Nat.le_refl _) hwr
  have HBw := Lib.hid hbw
  have HOp := Lib.hid (fun W (hB : Below w.heap.size w W) => bopen_yes (hc.below hB) hup f lv fb fo c1 lb lo c2 (h.below hB) hwr res bad hr hb)
  have hop : o.p = .pointer (some ⟨o.bc, 0, none⟩) := rfl
  have HF := Lib.hid hF
  have HC := Lib.hid hc
  have HLn : Hid ((rows c.bad f lv c.nb).length = c.nb) := Lib.hid (rows_length _ _ _ _)
  have HCe : Hid (∀ W, Below w.heap.size w W → W.cell? ⟨F, 0, none⟩ = some (.pointer (some ⟨o.bc, 0, none⟩)) ∧ W.cell? ⟨F, 2, none⟩ = some (.int .i64 res) ∧ W.cell? ⟨F, 3, none⟩ = some (.int .i64 bad)) := Lib.hid fun W hB => ⟨(hF.below hB hFl).cell 0, (hF.below hB hFl).cell 2, (hF.below hB hFl).cell 3⟩
  have HAp : Hid (decide (4 < wrap64 (greatest (wk c.wear (rows c.bad f lv c.nb) c.nb) - least (wk c.wear (rows c.bad f lv c.nb) c.nb))) = apB c (rows c.bad f lv c.nb)) := Lib.hid rfl
  obtain ⟨nb, hn⟩ : ∃ nb, c.nb = nb := ⟨_, rfl⟩
  have HN := Lib.hid hn
  obtain ⟨R, hR⟩ : ∃ R, rows c.bad f lv nb = R := ⟨_, rfl⟩
  rw [hop] at HOp
  rw [hn] at HOp HBw HLn HAp hnb hn7 hoF ⊢
  rw [hR] at HOp HBw HLn HAp ⊢
  generalize apB c R = apv at HAp ⊢
  clear hc h hF hr hb hup hwr hbw hop hn hR hnp
  go_enter Tryz.func29, Tryz.ntmps29
  go_upto_region 1 with (fail)
  refine wp_region_held_drew (S := fun W => Below w.heap.size w W) (by kernel_rfl) (Below.refl _ _).drew (fun hHeld => ?_)
  refine wpAnyH_take (i := 0) (v := .pointer (some ⟨F, 0, none⟩)) rfl (by kernel_rfl) (by kernel_rfl) (by kernel_rfl) (fun _ _ _ h => h) (Or.inl ⟨by kernel_rfl, ?_⟩) hHeld ?_
  · intro w' hSw
    obtain ⟨q0, q2, q3⟩ := HCe.out w' hSw
    go_simp
  refine wpAnyH_take (i := 1) (v := .pointer (some ⟨F, 0, none⟩)) rfl (by kernel_rfl) (by kernel_rfl) (by kernel_rfl) (fun _ _ _ h => h) (Or.inl ⟨by kernel_rfl, ?_⟩) hHeld ?_
  · intro w' hSw
    obtain ⟨q0, q2, q3⟩ := HCe.out w' hSw
    go_simp
  refine wpAnyH_take (i := 2) (v := .pointer (some ⟨F, 0, none⟩)) rfl (by kernel_rfl) (by kernel_rfl) (by kernel_rfl) (fun _ _ _ h => h) (Or.inl ⟨by kernel_rfl, ?_⟩) hHeld ?_
  · intro w' hSw
    obtain ⟨q0, q2, q3⟩ := HCe.out w' hSw
    go_simp
  refine wpAnyH_take (i := 3) (v := .pointer (some ⟨o.bc, 0, none⟩)) rfl (by kernel_rfl) (by kernel_rfl) (by kernel_rfl) (fun _ _ _ h => h) (Or.inl ⟨by kernel_rfl, ?_⟩) hHeld ?_
  · intro w' hSw
    obtain ⟨q0, q2, q3⟩ := HCe.out w' hSw
    go_simp
  refine wpAnyH_take (i := 4) (v := .slice (some ⟨fb, fo, none⟩) nb c1) rfl (by kernel_rfl) (by kernel_rfl) (by kernel_rfl) (fun _ _ _ h => h) (Or.inl ⟨by kernel_rfl, ?_⟩) hHeld ?_
  · intro w' hSw
    obtain ⟨q0, q2, q3⟩ := HCe.out w' hSw
    go_simp
  refine wpAnyH_take (i := 5) (v := .slice (some ⟨lb, lo, none⟩) nb c2) rfl (by kernel_rfl) (by kernel_rfl) (by kernel_rfl) (fun _ _ _ h => h) (Or.inl ⟨by kernel_rfl, ?_⟩) hHeld ?_
  · intro w' hSw
    obtain ⟨q0, q2, q3⟩ := HCe.out w' hSw
    go_simp
  refine wpAnyH_take (i := 6) (v := .pointer (some ⟨F, 0, none⟩)) rfl (by kernel_rfl) (by kernel_rfl) (by kernel_rfl) (fun _ _ _ h => h) (Or.inl ⟨by kernel_rfl, ?_⟩) hHeld ?_
  · intro w' hSw
    obtain ⟨q0, q2, q3⟩ := HCe.out w' hSw
    go_simp
  refine wpAnyH_take (i := 7) (v := .pointer (some ⟨F, 0, none⟩)) rfl (by kernel_rfl) (by kernel_rfl) (by kernel_rfl) (fun _ _ _ h => h) (Or.inl ⟨by kernel_rfl, ?_⟩) hHeld ?_
  · intro w' hSw
    obtain ⟨q0, q2, q3⟩ := HCe.out w' hSw
    go_simp
  refine wpAnyH_take (i := 8) (v := .pointer (some ⟨F, 2, none⟩)) rfl (by kernel_rfl) (by kernel_rfl) (by kernel_rfl) (fun _ _ _ h => h) (Or.inl ⟨by kernel_rfl, ?_⟩) hHeld ?_
  · intro w' hSw
    obtain ⟨q0, q2, q3⟩ := HCe.out w' hSw
    go_simp
  refine wpAnyH_take (i := 9) (v := .int .i64 res) rfl (by kernel_rfl) (by kernel_rfl) (by kernel_rfl) (fun _ _ _ h => h) (Or.inl ⟨by kernel_rfl, ?_⟩) hHeld ?_
  · intro w' hSw
    obtain ⟨q0, q2, q3⟩ := HCe.out w' hSw
    go_simp
  refine wpAnyH_take (i := 10) (v := .pointer (some ⟨F, 0, none⟩)) rfl (by kernel_rfl) (by kernel_rfl) (by kernel_rfl) (fun _ _ _ h => h) (Or.inl ⟨by kernel_rfl, ?_⟩) hHeld ?_
  · intro w' hSw
    obtain ⟨q0, q2, q3⟩ := HCe.out w' hSw
    go_simp
  refine wpAnyH_take (i := 11) (v := .pointer (some ⟨F, 0, none⟩)) rfl (by kernel_rfl) (by kernel_rfl) (by kernel_rfl) (fun _ _ _ h => h) (Or.inl ⟨by kernel_rfl, ?_⟩) hHeld ?_
  · intro w' hSw
    obtain ⟨q0, q2, q3⟩ := HCe.out w' hSw
    go_simp
  refine wpAnyH_take (i := 12) (v := .pointer (some ⟨F, 3, none⟩)) rfl (by kernel_rfl) (by kernel_rfl) (by kernel_rfl) (fun _ _ _ h => h) (Or.inl ⟨by kernel_rfl, ?_⟩) hHeld ?_
  · intro w' hSw
    obtain ⟨q0, q2, q3⟩ := HCe.out w' hSw
    go_simp
  refine wpAnyH_take (i := 13) (v := .int .i64 bad) rfl (by kernel_rfl) (by kernel_rfl) (by kernel_rfl) (fun _ _ _ h => h) (Or.inl ⟨by kernel_rfl, ?_⟩) hHeld ?_
  · intro w' hSw
    obtain ⟨q0, q2, q3⟩ := HCe.out w' hSw
    go_simp
  try simp only [Act.put, List.setIfInBounds_toArray]
  refine wpAnyH_ready (rs := [14]) (by kernel_rfl) (by simp) ?_
  refine AllReadyH.cons rfl (fun K hK => ?_) AllReadyH.nil
  go_simp
  refine (HOp.out _ hHeld).mono ?_
  rintro e w2 ⟨M, m, rfl, hm, ⟨m1, m2, m3, m4⟩, m5, hM, hg, hb2⟩
  refine hK.out _ _ (hHeld.trans (hb2.mono hHeld.size)) (fun hHeld2 => ?_)
  clear hK
  try simp only [Act.put, List.setIfInBounds_toArray, List.set]
  refine wpAnyH_take (i := 15) (v := .tuple #[.pointer (some ⟨M, 0, none⟩), .int .i64 0]) rfl (by kernel_rfl) (by kernel_rfl) (by kernel_rfl) (fun _ _ _ h => h) (Or.inl ⟨by kernel_rfl, ?_⟩) hHeld2 ?_
  · intro w' hSw
    go_simp
  refine wpAnyH_take (i := 16) (v := .pointer (some ⟨M, 0, none⟩)) rfl (by kernel_rfl) (by kernel_rfl) (by kernel_rfl) (fun _ _ _ h => h) (Or.inl ⟨by kernel_rfl, ?_⟩) hHeld2 ?_
  · intro w' hSw
    go_simp
  refine wpAnyH_take (i := 17) (v := .int .i64 0) rfl (by kernel_rfl) (by kernel_rfl) (by kernel_rfl) (fun _ _ _ h => h) (Or.inl ⟨by kernel_rfl, ?_⟩) hHeld2 ?_
  · intro w' hSw
    go_simp
  refine wpAnyH_take (i := 18) (v := .pointer (some ⟨M, 0, none⟩)) rfl (by kernel_rfl) (by kernel_rfl) (by kernel_rfl) (fun _ _ _ h => h) (Or.inl ⟨by kernel_rfl, ?_⟩) hHeld2 ?_
  · intro w' hSw
    go_simp
  refine wpAnyH_take (i := 19) (v := .int .i64 0) rfl (by kernel_rfl) (by kernel_rfl) (by kernel_rfl) (fun _ _ _ h => h) (Or.inl ⟨by kernel_rfl, ?_⟩) hHeld2 ?_
  · intro w' hSw
    go_simp
  refine wpAnyH_done (by kernel_rfl) ?_ _
  have hF2 := HF.out.below hHeld2 hFl
  have f1 := hF2.frozen 1
  have c1' : w2.cell? ⟨F, 1, none⟩ = some Mv := hF2.cell 1
  have hM2 : w.heap.size ≤ M := hM
  have hg2 : w.heap.size ≤ m.g := hg
  have hK3 := Kp.one w2 ⟨F, 1, none⟩ (.pointer (some ⟨M, 0, none⟩))
  have HF3 : Hid (Blk (w2.setCell ⟨F, 1, none⟩ (.pointer (some ⟨M, 0, none⟩))) F 58 (ftC o (.pointer (some ⟨M, 0, none⟩)) res bad cap ap st tx x1 x2 x3 seq ep x4 x5 nb' fl bg bk)) := Lib.hid (by
    have := hF2.put 1 (.pointer (some ⟨M, 0, none⟩))
    simpa [ftC] using this)
  have HM3 := Lib.hid (hm.kp hK3 (fun e => by have e2 : M = F := e; omega) (fun e => by have e2 : m.g = F := e; omega))
  have HC3 := Lib.hid ((HC.out.below hHeld2).kp hK3 (fun b e => by rw [e]; exact hXF) (fun b hb e => hoF (by have e2 : b = F := e; rw [← e2, ← HN.out]; exact hb)))
  have HK3 : Hid (Kp (fun b => b = F) w (w2.setCell ⟨F, 1, none⟩ (.pointer (some ⟨M, 0, none⟩)))) := Lib.hid ((Kp.of_below hHeld2).trans hK3)
  have HMm := Lib.hid (And.intro m1 (And.intro m2 (And.intro m3 (And.intro m4 m5))))
  clear hm hb2 hHeld hHeld2 hK3 hF2 hM hg m1 m2 m3 m4 m5 HOp HCe
  go_upto_region 5 with (fail)
  generalize (w2.setCell ⟨F, 1, none⟩ (.pointer (some ⟨M, 0, none⟩))) = w3 at HF3 HM3 HC3 HK3 ⊢
  clear f1 c1'
  have hml : m.l.length = c.nb := by rw [HMm.out.2.1, HLn.out, HN.out]
  have hrow := frow_any HM3.out HC3.out HMm.out.1 hml (F := F) (HF3.out.cell 1)
  rw [HMm.out.2.1, HN.out] at hrow
  have HRow := Lib.hid hrow
  clear hrow hml
  go_wp2_with fail
  refine HRow.out.mono ?_
  rintro e w4 ⟨a, cap', rfl, hown, hb4⟩
  obtain ⟨gg, cap2, e1, -, hO⟩ := own_of_row hown (by omega)
  injection e1 with e1 e2 e3
  subst e1
  have hL : (wk c.wear R nb).length = nb := by rw [wk_length]; exact HLn.out
  obtain ⟨L, hLe⟩ : ∃ L, wk c.wear R nb = L := ⟨_, rfl⟩
  have HAp0 := HAp
  rw [hLe] at hO hL HBw HAp
  have hrg := hO.rg HBw.out (by rw [hL]; unfold maxLen; omega)
  have HGr := Lib.hid (greatest_any L (some ⟨gg, 0, none⟩) cap' nb w4 hrg hL)
  have HLe := Lib.hid (fun W (hB : Below w4.heap.size w4 W) => least_any L (some ⟨gg, 0, none⟩) cap' nb W (hrg.below hB) hL)
  have HF4 := Lib.hid (HF3.out.below hb4 HF3.out.lt)
  have HM4 := Lib.hid (HM3.out.below hb4)
  have HK4 := Lib.hid (HK3.out.trans (Kp.of_below hb4))
  clear hown hO hrg hb4 e2 e3 hL hLe HRow HF3 HM3 HK3 HC3 HC
  go_wp2_with fail
  refine HGr.out.mono ?_
  rintro e w5 ⟨rfl, hb5⟩
  have HLe5 := Lib.hid (HLe.out _ hb5)
  have HF5 := Lib.hid (HF4.out.below hb5 HF4.out.lt)
  have HM5 := Lib.hid (HM4.out.below hb5)
  have HK5 := Lib.hid (HK4.out.trans (Kp.of_below hb5))
  clear hb5 HGr HLe HF4 HM4 HK4
  go_wp2_with fail
  refine HLe5.out.mono ?_
  rintro e w6 ⟨rfl, hb6⟩
  have hF6 := HF5.out.below hb6 HF5.out.lt
  have hM6 := HM5.out.below hb6
  have hK6 := HK5.out.trans (Kp.of_below (F := fun b => b = F) hb6)
  have f5 := hF6.frozen 5
  have c5' : w6.cell? ⟨F, 5, none⟩ = some (.bool ap) := hF6.cell 5
  have hK7 := Kp.one w6 ⟨F, 5, none⟩ (.bool apv)
  have HEnd : Hid ((∃ M m, MgAt (w6.setCell ⟨F, 5, none⟩ (.bool apv)) M m ∧ (m.cp = o.p ∧ m.l = R ∧ m.r = res ∧ m.b = bad ∧ m.ap = apv) ∧
      Blk (w6.setCell ⟨F, 5, none⟩ (.bool apv)) F 58 (ftC o (.pointer (some ⟨M, 0, none⟩)) res bad cap apv st tx x1 x2 x3 seq ep x4 x5 nb' fl bg bk) ∧ w.heap.size ≤ M ∧ w.heap.size ≤ m.g) ∧ Kp (fun b => b = F) w (w6.setCell ⟨F, 5, none⟩ (.bool apv))) := Lib.hid ⟨⟨M, m, hM6.kp hK7 (fun e => by have e2 : M = F := e; omega) (fun e => by have e2 : m.g = F := e; omega), ⟨HMm.out.1, HMm.out.2.1, HMm.out.2.2.1, HMm.out.2.2.2.1, by rw [HMm.out.2.2.2.2]; exact HAp0.out⟩, by
        have := hF6.put 5 (.bool apv)
        simpa [ftC] using this, hM2, hg2⟩, hK6.trans hK7⟩
  have hap := HAp.out
  clear hb6 hF6 hM6 hK6 hK7 HF5 HM5 HK5 HLe5 HBw HAp0
  go_wp2
  go_ret
  exact ⟨rfl, HEnd.out.1, HEnd.out.2⟩
end Go.Proofs.YtbfifppdcmimaaaGreat
