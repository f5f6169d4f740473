/-
  Faults set: the program's call Script. Nothing of one statement alone stands here.
-/
import Derived.Test.YtiaaeiefgnoiaaaNandKept
namespace Go.Proofs.Ytiaaeiefgnoiaaa
open Go.RowKit Crcm Go.ChangeShapes

set_option maxRecDepth 100000 in
set_option maxHeartbeats 2000000 in
/-- faults set -/
theorem script_yes {w : World} {X : Nat → Prop} {o : Own} {c : Ch} (h : ChAt w X o c) (a : Option Addr) (n cap : Nat) (fl : List Fl) (hf : FlAt w X (.slice a n cap) fl) (hn : fl.length = n) (hn2 : n ≤ 20000) (hd : ∀ f ∈ fl, f.data.length ≤ 20000) (hat : ∀ f ∈ fl, 0 ≤ f.at') :
    Calls Try.prog 25 #[o.p, .slice a n cap] w fun e w' => e = .returned (.int .i64 0) ∧ ChAt w' X o { c with fl := fl.map (trF (c.sz + 32)), since := 0 } ∧ Kp (o.F c.nb) w w' := by
  have HKe := Lib.hid (fun w' (hb : Below w.heap.size w w') => kept_any (h.below hb) a n cap fl (hf.kp (F := fun _ => False) (Kp.of_below hb) (fun _ g => g.elim)) hn hn2 hd)
  have H := Lib.hid h
  have HF := Lib.hid hf
  have HN := Lib.hid hn
  have HAt := Lib.hid hat
  have n1 : n ≤ 9223372036854775807 := by omega
  clear h hf hn hd hat
  go_enter Try.func25, Try.ntmps25
  go_wp2_with fail
  go_loopw [11] (fun i wr => ∃ k : Nat, k ≤ n ∧ i = .int .i64 k ∧ Hid (Below w.heap.size w wr)) (fun i _ => n - (intOf i).toNat)
  case atStart => exact ⟨0, Nat.zero_le _, rfl, Lib.hid (Below.refl _ _)⟩
  case round =>
    obtain ⟨k, hkn, rfl, hB⟩ := hrel
    by_cases hlt : k < n
    · have hlt' : (k : Int) < (n : Int) := by omega
      have hkl : k < fl.length := by rw [HN.out]; exact hlt
      obtain ⟨a', cap', ev, -, hf3⟩ := HF.out
      injection ev with e1 e2 e3
      subst e1 e3
      clear e2
      rcases hf3 with rfl | ⟨b, off, rfl, hxb, hf3⟩
      · simp at hkl
      obtain ⟨c0, c1, da, dc, c2, -, -⟩ := hf3 k hkl
      have hbs := hB.out
      have d0 := (hbs.cell (block_lt_of_cell c0)).trans c0
      have d1 := (hbs.cell (block_lt_of_cell c1)).trans c1
      have d2 := (hbs.cell (block_lt_of_cell c2)).trans c2
      clear c0 c1 c2
      have ha := HAt.out fl[k] (List.getElem_mem hkl)
      obtain ⟨f, hfk⟩ : ∃ f, fl[k] = f := ⟨_, rfl⟩
      rw [hfk] at d0 d1 d2 ha
      obtain ⟨at0, kd, dl⟩ := f
      dsimp only at d0 d1 d2 ha
      have hat2 : ¬ at0 < 0 := by omega
      clear hfk hf3 hkl ha
      have HB2 := Lib.hid (hB.out.alloc hB.out.size (.cells #[.int .i64 at0, .int .i64 kd, .slice da dl.length dc] 66))
      clear hbs
      go_wp2
      go_roundw
      case rel => exact ⟨k + 1, by omega, by go_num, HB2⟩
      case measure => simp [intOf]; omega
    · have hkn2 : k = n := by omega
      have hlt' : ¬ (k : Int) < (n : Int) := by omega
      subst hkn2
      go_wp2_with fail
      refine (HKe.out _ hB.out).mono ?_
      rintro e w2 ⟨⟨v', rfl, hfl⟩, hb2⟩
      have hfl2 := hfl
      obtain ⟨a6, cap6, hv, -⟩ := hfl2
      rw [List.length_map, HN.out] at hv
      subst hv
      have hb := hB.out.trans (hb2.mono hB.out.size)
      have hC := H.out.below hb
      obtain ⟨fv, hch, -⟩ := hC.chip
      have c5 : w2.cell? ⟨o.bc, 5, none⟩ = some fv := hch.cell 5
      obtain ⟨-, -, -, -, -, c6, -⟩ := hC.cell
      have f5 := hC.froz 5
      have f6 := hC.froz 6
      have HP := Lib.hid ((hC.putFl _ _ hfl).putSince 0)
      have HKp := Lib.hid (((Kp.of_below (F := o.F c.nb) hb).setCell (p := ⟨o.bc, 5, none⟩) (.inl (.inl rfl)) (.slice a6 k cap6)).setCell (p := ⟨o.bc, 6, none⟩) (.inl (.inl rfl)) (.int .i64 0))
      clear hC hfl hb2 hb hch
      go_wp2
      go_ret
      exact ⟨rfl, HP.out, HKp.out⟩

end Go.Proofs.Ytiaaeiefgnoiaaa
