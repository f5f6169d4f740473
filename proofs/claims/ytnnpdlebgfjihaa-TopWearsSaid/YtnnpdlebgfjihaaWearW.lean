/-
  The statement that blocks wear alike.
-/
import Derived.Test.YtnnpdlebgfjihaaWearSu
import Derived.Deep.CutBlock
import Derived.Deep.CutRange
import Derived.Deep.DeepCutAuto
namespace Go.Proofs.Ytnnpdlebgfjihaa
open Go.RowKit Crcm Gcm Go.ChangeShapes

theorem own_formW {w : World} {base k : Nat} {v : Value} {xs : List Value} {e : TypeId} (h : w.ownsRow base e 1 v k xs) : ∃ a c, v = .slice a k c := by
  rcases h.2 with ⟨rfl, rfl⟩ | ⟨g, cap, cur, rfl, _⟩
  · exact ⟨none, 0, rfl⟩
  · exact ⟨_, cap, rfl⟩
theorem Try.infoBo : (Try.prog.info? 4).map (fun i => (i.zero, i.size, i.bytes)) = some (some (.bool false), 1, 1) := by kernel_rfl
theorem Try.infoInt : (Try.prog.info? 3).map (fun i => (i.zero, i.size, i.bytes)) = some (some (.int .i64 0), 1, 8) := by kernel_rfl
/-- the manager at first -/
def l16 : List Bk := List.replicate 16 ⟨0, 0, 0, 0⟩
theorem l16_rows : rows (newC 16 8 64 []).bad (fun _ => true) (fun _ => 0) 16 = l16 := by kernel_rfl
theorem l16_wk : wk (newC 16 8 64 []).wear l16 16 = l16 := by kernel_rfl
theorem l16_apart : decide (4 < wrap64 (greatest l16 - least l16)) = false := by kernel_rfl
theorem iv0 : Iv l16 (newC 16 8 64 []) [] 0 := by
  have hl : ∀ k, k < 16 → l16[k]! = ⟨0, 0, 0, 0⟩ := fun k hk => by
    rw [getElem!_pos l16 k (by simpa [l16] using hk)]
    exact List.getElem_replicate _
  refine ⟨rfl, rfl, rfl, rfl, rfl, rfl, fun k hk => ⟨rfl, rfl⟩, fun k hk => ?_, fun k hk => ?_, fun x hx => (by cases hx), fun k hk => ⟨Int.le_refl _, Int.le_refl _⟩, fun j k _ _ => (by show (0 : Int) ≤ 0 + 4; omega)⟩
  · rw [hl k hk]
    exact .inl ⟨rfl, rfl, rfl, nx_wiped 8⟩
  · rw [hl k hk]
    rfl

theorem bopen16 {w : World} {o : Own} {X : Nat → Prop} (hC : ChAt w X o (newC 16 8 64 [])) {fb lb : Nat} (h : FrLv w 16 8 (fun _ => true) (fun _ => 0) fb 0 lb 0) :
    Calls Try.prog 15 #[o.p, .slice (some ⟨fb, 0, none⟩) 16 16, .slice (some ⟨lb, 0, none⟩) 16 16, .int .i64 1, .int .i64 0] w fun e w' => ∃ M g cap, e = .returned (.tuple #[.pointer (some ⟨M, 0, none⟩), .int .i64 0]) ∧ MgAt w' M ⟨o.p, g, cap, l16, 1, 0, false⟩ ∧ w.heap.size ≤ M ∧ w.heap.size ≤ g ∧ Below w.heap.size w w' := by
  have hO := bopen_yes hC rfl (fun _ => true) (fun _ => 0) fb 0 16 lb 0 16 h (fun k _ => by show I64 0; unfold I64; omega) 1 0 (by omega) (by omega)
  refine hO.mono ?_
  rintro e w' ⟨M, ⟨cp, g, cap, l, r, b, ap⟩, he, hm, ⟨h3, h4, h5, h6⟩, h7, hM, hg, hb⟩
  rw [show (newC 16 8 64 []).nb = 16 from rfl, l16_rows, l16_wk, l16_apart] at h7
  rw [show (newC 16 8 64 []).nb = 16 from rfl, l16_rows] at h4
  dsimp only at h3 h4 h5 h6 h7 hg
  subst h3 h4 h5 h6 h7
  exact ⟨M, g, cap, he, hm, hM, hg, hb⟩

/-- what the flags' row holds -/
def Fb (k : Nat) (cs : Array Value) : Prop := cs.size = 16 ∧ (∀ j, j < 16 → ∃ v, cs[j]? = some v) ∧ ∀ j, j < k → j < 16 → cs[j]? = some (.bool true)
theorem Fb.next {k : Nat} {cs : Array Value} (h : Fb k cs) (hk : k < 16) : Fb (k + 1) (cs.setIfInBounds k (.bool true)) := by
  obtain ⟨h1, h2, h3⟩ := h
  refine ⟨by simpa using h1, fun j hj => ?_, fun j hj hj2 => ?_⟩
  · by_cases e : k = j
    · subst e
      exact ⟨.bool true, by simp [h1, hk]⟩
    · obtain ⟨v, hv⟩ := h2 j hj
      exact ⟨v, by rw [Array.getElem?_setIfInBounds, if_neg e]; exact hv⟩
  · by_cases e : k = j
    · subst e
      simp [h1, hk]
    · rw [Array.getElem?_setIfInBounds, if_neg e]
      exact h3 j (by omega) hj2

set_option maxRecDepth 100000 in
set_option maxHeartbeats 40000000 in
theorem topWears_main (a0 : Option Addr) (len0 cap0 : Nat) (ls : List Int) (w : World) (hr : Rw w a0 ls) (hl : ls.length = len0) (h0m : len0 ≤ maxLen) :
    Calls Try.prog 5 #[.slice a0 len0 cap0] w fun e w' => e = .returned (.bool true) ∧ Below w.heap.size w w' := by
  obtain ⟨i8, hi8, hy0, hy1, hy2⟩ := info_parts Try.infoBo
  obtain ⟨i0, hi, hz0, hz1, hz2⟩ := info_parts Try.infoInt
  have HAw := Lib.hid (fun w => awake_any w)
  have HSm := Lib.hid (fun w => small_any w)
  have HNew := Lib.hid (fun w => new_any 16 8 64 w gd16 [] none 0 0 Ri.nil rfl)
  unfold geoV at HNew
  have HR := Lib.hid hr
  have HL := Lib.hid hl
  unfold maxLen at h0m
  clear hr hl
  go_enter Try.func5, Try.ntmps5
  go_wp2_with fail
  refine (HSm.out _).mono ?_
  rintro e w0 ⟨rfl, hb0⟩
  go_wp2_with fail
  refine (HNew.out _).mono ?_
  rintro r w1 ⟨hB, ⟨-, o, rfl, hC, hF⟩ | ⟨⟨x, hx, -⟩, -⟩⟩
  case inr => cases hx
  have HC := Lib.hid hC
  have HB := Lib.hid (hb0.trans (hB.mono hb0.size))
  have HF := Lib.hid (fun b hb => Nat.le_trans hb0.size (hF b hb))
  clear hb0 hC hB hF HNew HSm
  go_wp2_with (at_make; refine wpList_make_blk _ rfl _ _ 26 rfl 4 i8 (.bool false) 1 Try.underlying26 hi8 hy0 hy1 .i64 .i64 _ _ 16 rfl rfl rfl rfl (by rw [hy2]; omega) (by unfold maxLen; omega) ?_)
  intro w2 hBk hB2 hS2
  have HF0 : Hid (∃ cs, Blk w2 w1.heap.size 4 cs ∧ Fb 0 cs) := Lib.hid ⟨_, hBk.out, by
    refine ⟨(size_madeCells _ _).trans (by simp), fun j hj => ⟨.bool false, made_get (by omega)⟩, fun j hj => absurd hj (Nat.not_lt_zero _)⟩⟩
  have HB2 := Lib.hid hB2.out
  clear hBk hB2 hS2
  generalize hg1 : w1.heap.size = gb at HF0 ⊢
  have HG := Lib.hid hg1
  clear hg1
  go_wp2_with fail
  go_loopw [6] (fun i wr => ∃ k : Nat, k ≤ 16 ∧ i = .int .i64 k ∧ Hid (∃ cs, Blk wr gb 4 cs ∧ Fb k cs) ∧ Hid (Below w1.heap.size w1 wr)) (fun i _ => 16 - (intOf i).toNat)
  case atStart => exact ⟨0, Nat.zero_le _, rfl, HF0, HB2⟩
  case round =>
    obtain ⟨k, hk, rfl, hFb, hbel⟩ := hrel
    by_cases hlt : k < 16
    · obtain ⟨cs, hb, hf⟩ := hFb.out
      obtain ⟨y, hy⟩ := hf.2.1 k hlt
      have c0 := (hb.cell k).trans hy
      have f0 := hb.frozen k
      have HBb := Lib.hid hb
      have HFn := Lib.hid (hf.next hlt)
      have kl : (k : Int) < 16 := by omega
      clear hb hf hy hFb
      go_wp2
      go_roundw
      case rel => exact ⟨k + 1, by omega, by go_num, Lib.hid ⟨_, HBb.out.put k _, HFn.out⟩, Lib.hid (hbel.out.setCell (p := ⟨gb, k, none⟩) (by show w1.heap.size ≤ gb; rw [HG.out]; exact Nat.le_refl _) _)⟩
      case measure => simp [intOf]; omega
    · have hkn : k = 16 := by omega
      subst hkn
      obtain ⟨cs, hb, hf⟩ := hFb.out
      have HBb := Lib.hid hb
      have HFb := Lib.hid hf
      clear hb hf hFb HF0 HB2
      go_wp2_with (at_make; refine wpList_make_blk _ rfl _ _ 24 rfl 3 i0 (.int .i64 0) 1 Try.underlying24 hi hz0 hz1 .i64 .i64 _ _ 16 rfl rfl rfl rfl (by rw [hz2]; omega) (by unfold maxLen; omega) ?_)
      intro w3 hBk hB3 hS3
      have hfr : FrLv w3 16 8 (fun _ => true) (fun _ => 0) gb 0 wr.heap.size 0 := by
        refine ⟨fun j hj => ?_, fun j hj => ?_, fun j hj => ⟨by omega, by omega, fun _ => rfl⟩⟩
        · rw [Nat.zero_add, (HBb.out.below hB3.out HBb.out.lt).cell]
          exact HFb.out.2.2 j hj hj
        · rw [Nat.zero_add, hBk.out.cell]
          exact made_get hj
      have C3 := HC.out.below (hbel.out.trans (hB3.out.mono hbel.out.size))
      have HO := Lib.hid (bopen16 C3 hfr)
      have HC3 := Lib.hid C3
      have HB3 := Lib.hid (HB.out.trans ((hbel.out.trans (hB3.out.mono hbel.out.size)).mono HB.out.size))
      clear hBk hB3 hS3 hfr C3 HBb HFb hbel HC HB hi hz0 hz1 hz2 hi8 hy0 hy1 hy2
      go_wp2_with fail
      refine HO.out.mono ?_
      rintro r w4 ⟨M, g, cap, rfl, hm, hM, hg, hb4⟩
      have HX : Hid (∀ b, (o.F 16 b ∨ b = M ∨ b = g) → w.heap.size ≤ b ∧ b < w4.heap.size) := Lib.hid (fun b hb => by
        have s2 := HB3.out.size
        have s3 := hb4.size
        rcases hb with h | rfl | rfl
        · exact ⟨HF.out b h, Nat.lt_of_lt_of_le (HC3.out.old b h) s3⟩
        · exact ⟨by omega, hm.blk.lt⟩
        · exact ⟨by omega, hm.own.lt⟩)
      have hC4 : ChAt w4 (fun b => o.F 16 b ∨ b = M ∨ b = g) o (newC 16 8 64 []) := HC3.out.widen hb4 (fun b hb => by
        rcases hb with h | rfl | rfl
        · exact .inl h
        · exact .inr hM
        · exact .inr hg) (fun b hb => (HX.out b hb).2) (fun b hb => .inl hb)
      have HS : Hid (Ws w w4 M g cap o (fun b => o.F 16 b ∨ b = M ∨ b = g) l16 (newC 16 8 64 []) [] (.slice none 0 0) 0) := Lib.hid
        ⟨hm, hC4, iv0, .inr (.inr rfl), fun b hb => (HX.out b hb).1, fun h => (by have := HC3.out.old M h; omega), fun h => (by have := HC3.out.old g h; omega), World.ownsRow_nil _ _ _ _, fun r hr => (by cases hr), HB3.out.trans (hb4.mono HB3.out.size)⟩
      clear hm hM hg hb4 HO HC3 hC4 HX HB3 HF
      go_wp2_with fail
      go_loopw [9, 10] (fun v i wr => ∃ (k : Nat) (held : List Int) (X : Nat → Prop) (l : List Bk) (c : Ch), k ≤ len0 ∧ k ≤ 400 ∧ held.length ≤ k ∧ i = .int .i64 k ∧ Hid (Ws w wr M g cap o X l c held v k)) (fun _ i _ => len0 - (intOf i).toNat)
      case atStart => exact ⟨0, [], _, _, _, by omega, by omega, Nat.le_refl _, rfl, HS⟩
      case round =>
        clear HS
        obtain ⟨k, held, X, l, c, hk0, hk4, hhl, rfl, hS⟩ := hrel
        obtain ⟨va, vc, rfl⟩ := own_formW hS.out.own
        by_cases hlt : k < len0
        case neg =>
          have q1 : ¬ ((k : Int) < (len0 : Int)) := by omega
          have hbk := tblocks_any hS.out.mg hS.out.ch rfl (hS.out.iv.len.trans hS.out.iv.nb.symm)
          dsimp only at hbk
          rw [hS.out.iv.nb] at hbk
          have HBk := Lib.hid hbk
          clear hbk
          go_wp2_with fail
          refine HBk.out.mono ?_
          rintro r w5 ⟨ra, rc, rfl, ho5, hb5⟩
          obtain ⟨gr, cr, hra, -, hO5⟩ := own_of_row ho5 (by omega)
          injection hra with hra1 hra2 hra3
          subst hra1 hra3
          have HS5 := Lib.hid (hS.out.below hb5)
          have HO5 := Lib.hid hO5
          clear ho5 hb5 hO5 HBk hS
          go_wp2_with fail
          go_loopw [16, 18] (fun s i wr => ∃ k2 : Nat, k2 ≤ 16 ∧ i = .int .i64 k2 ∧ s = .int .i64 (sumH held k2 : Nat) ∧ wr = w5) (fun _ i _ => 16 - (intOf i).toNat)
          case atStart => exact ⟨0, by omega, rfl, by rw [sumH_zero]; rfl, rfl⟩
          case round =>
            obtain ⟨k2, hk2, rfl, rfl, rfl⟩ := hrel
            by_cases hl2 : k2 < 16
            · have kl2 : (k2 : Int) < 16 := by omega
              have e1 := (HO5.out.at k2 (by rw [wk_length, HS5.out.iv.len]; exact hl2)).2.1
              rw [wk_at c.wear l k2 (by rw [HS5.out.iv.len]; exact hl2) 16 (by rw [HS5.out.iv.len]; omega), if_pos hl2] at e1
              have e2 : (setf l[k2]! 2 (c.wear k2)).lv = ((held.count (k2 : Int) : Nat) : Int) := HS5.out.iv.cnt k2 hl2
              rw [e2] at e1
              have hst := sumH_step held k2
              have hle := sumH_le held (k2 + 1)
              have hw : wrap64 ((sumH held k2 : Int) + (held.count (k2 : Int) : Nat)) = ((sumH held (k2 + 1) : Nat) : Int) := by
                rw [IntWalk.wrap64_in _ ⟨by omega, by omega⟩, hst]
                omega
              generalize held.count (k2 : Int) = cn at e1 hw
              generalize sumH held k2 = s1 at hw ⊢
              clear hst hle e2
              obtain ⟨s2, hs2⟩ : ∃ s2, sumH held (k2 + 1) = s2 := ⟨_, rfl⟩
              rw [hs2] at hw
              have HS2 := Lib.hid hs2
              clear hs2
              go_wp2
              go_roundw
              case rel => exact ⟨k2 + 1, by omega, by go_num, by rw [HS2.out, hw], trivial⟩
              case measure => simp [intOf]; omega
            · have hk16 : k2 = 16 := by omega
              subst hk16
              rw [sumH_all held HS5.out.iv.hin]
              go_wp2_with fail
              refine (HAw.out _).mono ?_
              rintro r w6 ⟨rfl, hb6⟩
              have HB6 := Lib.hid (HS5.out.bel.trans (hb6.mono HS5.out.bel.size))
              clear hb6
              go_wp2
              go_ret
              exact ⟨rfl, HB6.out⟩
        by_cases hlt4 : k < 400
        case neg =>
          have q1 : (k : Int) < (len0 : Int) := by omega
          have q2 : ¬ ((k : Int) < 400) := by omega
          have hbk := tblocks_any hS.out.mg hS.out.ch rfl (hS.out.iv.len.trans hS.out.iv.nb.symm)
          dsimp only at hbk
          rw [hS.out.iv.nb] at hbk
          have HBk := Lib.hid hbk
          clear hbk
          go_wp2_with fail
          refine HBk.out.mono ?_
          rintro r w5 ⟨ra, rc, rfl, ho5, hb5⟩
          obtain ⟨gr, cr, hra, -, hO5⟩ := own_of_row ho5 (by omega)
          injection hra with hra1 hra2 hra3
          subst hra1 hra3
          have HS5 := Lib.hid (hS.out.below hb5)
          have HO5 := Lib.hid hO5
          clear ho5 hb5 hO5 HBk hS
          go_wp2_with fail
          go_loopw [16, 18] (fun s i wr => ∃ k2 : Nat, k2 ≤ 16 ∧ i = .int .i64 k2 ∧ s = .int .i64 (sumH held k2 : Nat) ∧ wr = w5) (fun _ i _ => 16 - (intOf i).toNat)
          case atStart => exact ⟨0, by omega, rfl, by rw [sumH_zero]; rfl, rfl⟩
          case round =>
            obtain ⟨k2, hk2, rfl, rfl, rfl⟩ := hrel
            by_cases hl2 : k2 < 16
            · have kl2 : (k2 : Int) < 16 := by omega
              have e1 := (HO5.out.at k2 (by rw [wk_length, HS5.out.iv.len]; exact hl2)).2.1
              rw [wk_at c.wear l k2 (by rw [HS5.out.iv.len]; exact hl2) 16 (by rw [HS5.out.iv.len]; omega), if_pos hl2] at e1
              have e2 : (setf l[k2]! 2 (c.wear k2)).lv = ((held.count (k2 : Int) : Nat) : Int) := HS5.out.iv.cnt k2 hl2
              rw [e2] at e1
              have hst := sumH_step held k2
              have hle := sumH_le held (k2 + 1)
              have hw : wrap64 ((sumH held k2 : Int) + (held.count (k2 : Int) : Nat)) = ((sumH held (k2 + 1) : Nat) : Int) := by
                rw [IntWalk.wrap64_in _ ⟨by omega, by omega⟩, hst]
                omega
              generalize held.count (k2 : Int) = cn at e1 hw
              generalize sumH held k2 = s1 at hw ⊢
              clear hst hle e2
              obtain ⟨s2, hs2⟩ : ∃ s2, sumH held (k2 + 1) = s2 := ⟨_, rfl⟩
              rw [hs2] at hw
              have HS2 := Lib.hid hs2
              clear hs2
              go_wp2
              go_roundw
              case rel => exact ⟨k2 + 1, by omega, by go_num, by rw [HS2.out, hw], trivial⟩
              case measure => simp [intOf]; omega
            · have hk16 : k2 = 16 := by omega
              subst hk16
              rw [sumH_all held HS5.out.iv.hin]
              go_wp2_with fail
              refine (HAw.out _).mono ?_
              rintro r w6 ⟨rfl, hb6⟩
              have HB6 := Lib.hid (HS5.out.bel.trans (hb6.mono HS5.out.bel.size))
              clear hb6
              go_wp2
              go_ret
              exact ⟨rfl, HB6.out⟩
        have q1 : (k : Int) < (len0 : Int) := by omega
        have q2 : (k : Int) < 400 := by omega
        have hnx := bnext_any hS.out.mg hS.out.ch rfl (hS.out.iv.len.trans hS.out.iv.nb.symm) rfl (fun j hj => by have := hS.out.iv.wr j (by rw [← hS.out.iv.nb]; exact hj); unfold I64; omega)
        dsimp only at hnx
        rw [hS.out.iv.nb, hS.out.iv.np] at hnx
        obtain ⟨rm, hrm⟩ : ∃ rm, decide (((8 : Nat) : Int) ≤ rmk ((8 : Nat) : Int) l l.length) = rm := ⟨_, rfl⟩
        rw [hrm] at hnx
        have hN := hS.out.iv.next rm
        have hnx : Calls Try.prog 16 #[.pointer (some ⟨M, 0, none⟩)] wr fun e w' => e = .returned (av (nxt (wk c.wear l 16) 8 rm)) ∧ Below wr.heap.size wr w' := hnx
        obtain ⟨A, hA⟩ : ∃ A, nxt (wk c.wear l 16) 8 rm = A := ⟨_, rfl⟩
        rw [hA] at hnx hN
        have HNe := Lib.hid hN
        clear hN hrm
        have HNx := Lib.hid hnx
        clear hnx hA
        obtain ⟨kd, bq⟩ := A
        unfold av at HNx
        dsimp only at HNx HNe
        go_wp2_with fail
        refine HNx.out.mono ?_
        rintro r w5 ⟨rfl, hb5⟩
        have hb6 := hb5.alloc hb5.size (.cells #[.int .i64 kd, .int .i64 bq] 53)
        have HA := Lib.hid (Blk.new w5 53 #[.int .i64 kd, .int .i64 bq])
        have HS := Lib.hid (hS.out.below hb6)
        clear hb5 hb6 HNx hS
        obtain ⟨b, off, rfl, hcell⟩ : ∃ b off, a0 = some ⟨b, off, none⟩ ∧ ∀ W, Below w.heap.size w W → W.cell? ⟨b, off + k, none⟩ = some (.int .u8 (ls.getD k 0)) := by
          rcases HR.out.2.2 with h | ⟨b, off, e, h⟩
          · rw [h] at HL; have := HL.out; simp at this; omega
          · exact ⟨b, off, e, fun W hb => (hb.cell (p := ⟨b, off + k, none⟩) (block_lt_of_cell (h k (by rw [HL.out]; exact hlt)))).trans (h k (by rw [HL.out]; exact hlt))⟩
        have hU := HR.out.1 (ls.getD k 0) (by
          rw [List.getD_eq_getElem?_getD, List.getElem?_eq_getElem (by rw [HL.out]; exact hlt)]
          exact List.getElem_mem _)
        have hcc := hcell _ HS.out.bel
        generalize ls.getD k 0 = x at hcc hU
        clear hcell
        go_upto_region 15 with (fail)
        generalize (w5.alloc (.cells #[.int .i64 kd, .int .i64 bq] 53)) = w6 at HA HS hcc ⊢
        generalize w5.heap.size = pa at HA ⊢
        have t3 := Lib.hid HNe.out
        clear t3
        by_cases hd : x.tmod 3 = 0 ∧ 0 < held.length
        · obtain ⟨h3, h0⟩ := hd
          have hxl : (wrap64 x).tmod (held.length : Int) = ((x.toNat % held.length : Nat) : Int) := by
            rw [IntWalk.wrap64_in _ ⟨by unfold U8 at hU; omega, by unfold U8 at hU; omega⟩]
            obtain ⟨xn, rfl⟩ : ∃ xn : Nat, x = xn := ⟨x.toNat, by unfold U8 at hU; omega⟩
            rw [Int.toNat_natCast]
            rfl
          have hq : x.toNat % held.length < held.length := Nat.mod_lt _ h0
          generalize x.toNat % held.length = q at hxl hq
          have hvf : ∃ hg, va = some ⟨hg, 0, none⟩ ∧ held.length ≤ vc ∧ vc ≤ maxLen := by
            rcases HS.out.own.2 with ⟨_, e⟩ | ⟨g', c', cur, e, -, -, h1, h2, -⟩
            · omega
            · injection e with e1 e2 e3
              subst e3
              exact ⟨g', e1, h1, h2⟩
          obtain ⟨hg, rfl, hvc, hvm⟩ := hvf
          have e1 : w6.cell? ⟨hg, q, none⟩ = some (.int .i64 (held.getD q 0)) := by
            rw [HS.out.own.cellAt q (by omega), List.getElem?_map, List.getElem?_eq_getElem hq, List.getD_eq_getElem?_getD, List.getElem?_eq_getElem hq]; rfl
          have hmem : held.getD q 0 ∈ held := by
            rw [List.getD_eq_getElem?_getD, List.getElem?_eq_getElem hq]; exact List.getElem_mem hq
          have hin := HS.out.iv.hin _ hmem
          obtain ⟨kk, hkk⟩ : ∃ kk : Nat, held.getD q 0 = kk := ⟨(held.getD q 0).toNat, by omega⟩
          obtain ⟨d1, d2, d3, d4⟩ := HS.out.iv.drop kk (by rw [← hkk]; exact hmem) (cutH held q) (fun y => by rw [cutH_count held q hq y, hkk])
          have hDr := drop_yes HS.out.mg kk (by show kk < l.length; rw [HS.out.iv.len]; exact d1) _ _ _ _ rfl d2 d3
          dsimp only at hDr
          have HDr := Lib.hid hDr
          have HIv := Lib.hid d4
          have HQ := Lib.hid (And.intro hq h0)
          rw [hkk] at e1
          clear hDr d1 d2 d3 d4 hin hmem hkk
          go_wp2_with fail
          refine HDr.out.mono ?_
          rintro r w7 ⟨rfl, hm7, hk7⟩
          obtain ⟨hown7, hws7⟩ := HS.out.dropped HQ.out.1 hm7 hk7 HIv.out
          have f1 := hown7.frozenAt q
          have g1 : w7.cell? ⟨hg, q, none⟩ = some (.int .i64 (held.getD q 0)) := by
            rw [hown7.cellAt q (by have := HQ.out.1; omega), List.getElem?_map, List.getElem?_eq_getElem HQ.out.1, List.getD_eq_getElem?_getD, List.getElem?_eq_getElem HQ.out.1]; rfl
          have g2 : w7.cell? ⟨hg, held.length - 1, none⟩ = some (.int .i64 (held.getD (held.length - 1) 0)) := by
            have hh : held.length - 1 < held.length := by have := HQ.out.2; omega
            rw [hown7.cellAt (held.length - 1) (by omega), List.getElem?_map, List.getElem?_eq_getElem hh, List.getD_eq_getElem?_getD, List.getElem?_eq_getElem hh]; rfl
          have HW7 := Lib.hid hws7
          have HCl : Hid ((cutH held q).length ≤ k + 1) := Lib.hid (by rw [cutH_len]; omega)
          have hq1 : q < held.length := HQ.out.1
          clear hm7 hk7 hown7 hws7 HDr HIv HS HQ HA HNe hcc hU h3 e1 hxl
          generalize held.getD (held.length - 1) 0 = z at g2 HW7
          generalize held.getD q 0 = z0 at g1
          obtain ⟨n1, hn1⟩ : ∃ n1, held.length = n1 + 1 := ⟨held.length - 1, by omega⟩
          have hn4 : n1 < 1000 := by omega
          have hw1 : wrap64 (n1 : Int) = (n1 : Int) := IntWalk.wrap64_in _ ⟨by omega, by omega⟩
          unfold maxLen at hvm
          rw [hn1] at hvc
          rw [hn1, Nat.add_sub_cancel] at g2 HW7
          rw [hn1] at hq1 ⊢
          clear h0 hn1
          go_wp2_with fail
          go_roundw
          case rel => exact ⟨k + 1, _, X, _, c, by omega, by omega, HCl.out, by go_num, Lib.hid (HW7.out.mono (by omega))⟩
          case measure => simp [intOf]; omega
        · have a1' := HA.out.cell 0
          have a2' := HA.out.cell 1
          simp at a1' a2'
          have HA1 := Lib.hid (And.intro a1' a2')
          by_cases h3 : x.tmod 3 = 0
          · have h0 : ¬ 0 < held.length := fun q => hd ⟨h3, q⟩
            have he : held = [] := List.eq_nil_of_length_eq_zero (by omega)
            clear hd h0
            subst he
            have HS : Hid (Ws w w6 M g cap o X l c [] (.slice va 0 vc) k) := HS
            by_cases k1 : kd = 1
            · subst k1
              have HFr := Lib.hid (bfree_any HS.out.mg)
              dsimp only at HFr
              generalize cnt 0 l l.length = fr at HFr

              go_wp2_with fail
              refine HFr.out.mono ?_
              rintro r w7 ⟨rfl, hb7⟩
              have HS7 := Lib.hid (HS.out.below hb7)
              have hcc7 : w7.cell? ⟨b, off + k, none⟩ = some (.int .u8 x) := (hb7.cell (p := ⟨b, off + k, none⟩) (block_lt_of_cell hcc)).trans hcc
              have hA7 := HA.out.below hb7 HA.out.lt
              have b1' := hA7.cell 0
              have b2' := hA7.cell 1
              simp at b1' b2'
              clear hb7 HS HA HA1 a1' a2' hcc hA7 HFr
              by_cases hfr : fr < 4
              · have tf : decide (fr < 4) = true := decide_eq_true hfr
                obtain ⟨q, hq, rfl, hst, hw⟩ := HNe.out (by simp)
                obtain ⟨l', c', hT, hiv⟩ := HS7.out.iv.era q hq hst hw (by omega)
                have hE := bera_any HS7.out.mg HS7.out.ch rfl HS7.out.xg (by rw [HS7.out.iv.nb]; exact HS7.out.fm) (by rw [HS7.out.iv.nb]; exact HS7.out.fg) (q : Int)
                dsimp only at hE
                rw [hT] at hE
                have HE := Lib.hid hE
                have HIv := Lib.hid hiv
                clear hE hT hiv hst hw hq
                go_wp2_with fail
                refine HE.out.mono ?_
                rintro r w8 ⟨rfl, hm8, hc8, hk8⟩
                rw [HS7.out.iv.nb] at hk8
                have hS8 := HS7.out.call hk8 hm8 hc8 HIv.out rfl
                have hGp := gap_any hS8.ch (fun j hj => (hS8.iv.cln j (by rw [← hS8.iv.nb]; exact hj)).1) (fun j hj => by have := hS8.iv.wr j (by rw [← hS8.iv.nb]; exact hj); omega)
                have hgv := hS8.iv.gpL
                generalize (gpL c'.wear c'.nb).2 - (gpL c'.wear c'.nb).1 = gv at hGp hgv
                have HGp := Lib.hid hGp
                have HS8 := Lib.hid hS8
                have tg : decide (4 < gv) = false := decide_eq_false (by omega)
                clear hm8 hc8 hk8 hS8 hGp hgv HE HIv
                go_wp2_with fail
                refine HGp.out.mono ?_
                rintro r w9 ⟨rfl, hb9⟩
                have HS9 := Lib.hid (HS8.out.below hb9)
                clear hb9 HS8 HGp
                go_wp2_with fail
                go_roundw
                case rel => exact ⟨k + 1, [], X, l', c', by omega, by omega, by omega, by go_num, HS9⟩
                case measure => simp [intOf]; omega

              · have tf : decide (fr < 4) = false := decide_eq_false hfr
                clear b1' b2' HNe
                have hpr := HS7.out.iv.prog (tornL 96 [x]) (tornL_len _ _)
                have HRo := Lib.hid (Rw.one w7 x hU)
                have HTn := Lib.hid (ttorn_any (some ⟨w7.heap.size, 0, none⟩) 1 1 [x] _ HRo.out rfl)
                go_wp2_with fail
                refine HTn.out.mono ?_
                rintro r w8 ⟨rfl, hr8, hb8⟩
                have hba := ((Below.refl _ w7).alloc (Nat.le_refl _) (.cells #[.int .u8 x] 5))
                have hb78 : Below w7.heap.size w7 w8 := hba.trans (hb8.mono hba.size)
                have hS8 := HS7.out.below hb78
                have hga : w7.heap.size < (w7.alloc (.cells #[.int .u8 x] 5)).heap.size := by rw [World.size_alloc]; omega
                clear hb8 hba
                generalize (w7.alloc (.cells #[.int .u8 x] 5)).heap.size = ga at hr8 hga ⊢
                have hrx : RwX w8 X (some ⟨ga, 0, none⟩) (tornL 96 [x]) := ⟨hr8, fun b' off' s' e' _ gx => by
                  have h1 := HS7.out.ch.old b' gx
                  injection e' with e'
                  injection e' with e'
                  omega⟩
                have hP := bprogram_any hS8.mg hS8.ch rfl (hS8.iv.len.trans hS8.iv.nb.symm) hS8.xg (by rw [hS8.iv.nb]; exact hS8.fm) (by rw [hS8.iv.nb]; exact hS8.fg) _ 96 96 (tornL 96 [x]) hrx (tornL_len _ _)
                dsimp only at hP
                have HS8 := Lib.hid hS8
                have HSz8 := Lib.hid hb78.size
                clear hr8 hb78 hS8 hrx HTn HRo hga hcc7 hU
                rcases hpr with ⟨kb, pg, l', c', hR, hiv⟩ | ⟨hR, hno⟩
                · rw [hR] at hP
                  have HP := Lib.hid hP
                  have HIv := Lib.hid hiv
                  clear hP hR hiv
                  obtain ⟨i0, hi, hz0, hz1, hz2⟩ := info_parts Try.infoInt
                  go_wp2_with fail
                  refine HP.out.mono ?_
                  rintro r w9 ⟨rfl, hm9, hc9, hk9⟩
                  rw [HS8.out.iv.nb] at hk9
                  obtain ⟨own9, bel9⟩ := HS8.out.own_call hk9
                  dsimp only at hm9 hc9
                  have HM9 := Lib.hid hm9
                  have HC9 := Lib.hid hc9
                  have HB9 := Lib.hid bel9
                  have hsz9 := bel9.size
                  clear hm9 hc9 bel9 hk9 HP
                  go_wp2_with (at_builtin; refine wpList_append_own_at _ rfl _ _ 24 rfl w.heap.size 3 i0 (.int .i64 0) 1 8 Try.underlying24 hi hz0 hz1 hz2 rfl (by decide) (.slice va 0 vc) 0 [] rfl (own9.alloc _) ⟨w9.heap.size, 0, none⟩ 1 1 [.int .i64 kb] rfl rfl (cell_one_new _ _ _) (by simp [Value.oneCell']) (by unfold maxLen; omega) (by omega) (by rw [World.size_alloc]; omega) ?_)
                  intro v' w10 hown hgr _ hloc
                  obtain ⟨X', hX'⟩ := Ws.push (v := .slice va 0 vc) HM9.out HC9.out HS8.out.xg HS8.out.xlo HS8.out.fm HS8.out.fg HB9.out HS8.out.hv HIv.out (by rw [List.map_append]; exact hown) hgr (by rw [World.size_alloc]; exact hloc)
                  have HX' := Lib.hid (hX'.mono (show k ≤ k + 1 by omega))
                  clear hown hgr hloc hX' HM9 HC9 HB9 HIv HS8 own9 hi hz0 hz1 hz2
                  go_wp2_with fail
                  go_roundw
                  case rel => exact ⟨k + 1, _, X', _, c', by omega, by omega, (by rw [List.length_append]; exact Nat.succ_le_succ hhl), by go_num, HX'⟩
                  case measure => simp [intOf]; omega
                · rw [hR] at hP
                  have HP := Lib.hid hP
                  have HZ := Lib.hid (rmk_zero (np := 8) 16 hno)
                  clear hP hR hno
                  go_wp2_with fail
                  refine HP.out.mono ?_
                  rintro r w9 ⟨rfl, hm9, hc9, hk9⟩
                  rw [HS8.out.iv.nb] at hk9
                  have hS9 := HS8.out.call hk9 hm9 hc9 HS8.out.iv rfl
                  have hRm := broom_any hS9.mg hS9.ch rfl
                  dsimp only at hRm
                  rw [hS9.iv.np, hS9.iv.len] at hRm
                  have hRm : Calls Try.prog 20 #[.pointer (some ⟨M, 0, none⟩)] w9 fun e w' => e = .returned (.int .i64 0) ∧ Below w9.heap.size w9 w' := by
                    have hz := HZ.out
                    have hRm : Calls Try.prog 20 #[.pointer (some ⟨M, 0, none⟩)] w9 fun e w' => e = .returned (.int .i64 (rmk 8 l 16)) ∧ Below w9.heap.size w9 w' := hRm
                    rw [hz] at hRm
                    exact hRm
                  have HRm := Lib.hid hRm
                  have HS9 := Lib.hid hS9
                  clear hm9 hc9 hk9 hS9 hRm HP HS8
                  go_wp2_with fail
                  refine HRm.out.mono ?_
                  rintro r w10 ⟨rfl, hb10⟩
                  have HS10 := Lib.hid ((HS9.out.below hb10).mono (show k ≤ k + 1 by omega))
                  clear hb10 HS9 HRm
                  go_wp2_with fail
                  go_roundw
                  case rel => exact ⟨k + 1, [], X, l, c, by omega, by omega, by omega, by go_num, HS10⟩
                  case measure => simp [intOf]; omega
            by_cases k3 : kd = 3
            · subst k3
              have HFr := Lib.hid (bfree_any HS.out.mg)
              dsimp only at HFr
              generalize cnt 0 l l.length = fr at HFr
              clear k1

              go_wp2_with fail
              refine HFr.out.mono ?_
              rintro r w7 ⟨rfl, hb7⟩
              have HS7 := Lib.hid (HS.out.below hb7)
              have hcc7 : w7.cell? ⟨b, off + k, none⟩ = some (.int .u8 x) := (hb7.cell (p := ⟨b, off + k, none⟩) (block_lt_of_cell hcc)).trans hcc
              have hA7 := HA.out.below hb7 HA.out.lt
              have b1' := hA7.cell 0
              have b2' := hA7.cell 1
              simp at b1' b2'
              clear hb7 HS HA HA1 a1' a2' hcc hA7 HFr
              by_cases hfr : fr < 4
              · have tf : decide (fr < 4) = true := decide_eq_true hfr
                obtain ⟨q, hq, rfl, hst, hw⟩ := HNe.out (by simp)
                obtain ⟨l', c', hT, hiv⟩ := HS7.out.iv.era q hq hst hw (by omega)
                have hE := bera_any HS7.out.mg HS7.out.ch rfl HS7.out.xg (by rw [HS7.out.iv.nb]; exact HS7.out.fm) (by rw [HS7.out.iv.nb]; exact HS7.out.fg) (q : Int)
                dsimp only at hE
                rw [hT] at hE
                have HE := Lib.hid hE
                have HIv := Lib.hid hiv
                clear hE hT hiv hst hw hq
                go_wp2_with fail
                refine HE.out.mono ?_
                rintro r w8 ⟨rfl, hm8, hc8, hk8⟩
                rw [HS7.out.iv.nb] at hk8
                have hS8 := HS7.out.call hk8 hm8 hc8 HIv.out rfl
                have hGp := gap_any hS8.ch (fun j hj => (hS8.iv.cln j (by rw [← hS8.iv.nb]; exact hj)).1) (fun j hj => by have := hS8.iv.wr j (by rw [← hS8.iv.nb]; exact hj); omega)
                have hgv := hS8.iv.gpL
                generalize (gpL c'.wear c'.nb).2 - (gpL c'.wear c'.nb).1 = gv at hGp hgv
                have HGp := Lib.hid hGp
                have HS8 := Lib.hid hS8
                have tg : decide (4 < gv) = false := decide_eq_false (by omega)
                clear hm8 hc8 hk8 hS8 hGp hgv HE HIv
                go_wp2_with fail
                refine HGp.out.mono ?_
                rintro r w9 ⟨rfl, hb9⟩
                have HS9 := Lib.hid (HS8.out.below hb9)
                clear hb9 HS8 HGp
                go_wp2_with fail
                go_roundw
                case rel => exact ⟨k + 1, [], X, l', c', by omega, by omega, by omega, by go_num, HS9⟩
                case measure => simp [intOf]; omega

              · have tf : decide (fr < 4) = false := decide_eq_false hfr
                clear b1' b2' HNe
                have hpr := HS7.out.iv.prog (tornL 96 [x]) (tornL_len _ _)
                have HRo := Lib.hid (Rw.one w7 x hU)
                have HTn := Lib.hid (ttorn_any (some ⟨w7.heap.size, 0, none⟩) 1 1 [x] _ HRo.out rfl)
                go_wp2_with fail
                refine HTn.out.mono ?_
                rintro r w8 ⟨rfl, hr8, hb8⟩
                have hba := ((Below.refl _ w7).alloc (Nat.le_refl _) (.cells #[.int .u8 x] 5))
                have hb78 : Below w7.heap.size w7 w8 := hba.trans (hb8.mono hba.size)
                have hS8 := HS7.out.below hb78
                have hga : w7.heap.size < (w7.alloc (.cells #[.int .u8 x] 5)).heap.size := by rw [World.size_alloc]; omega
                clear hb8 hba
                generalize (w7.alloc (.cells #[.int .u8 x] 5)).heap.size = ga at hr8 hga ⊢
                have hrx : RwX w8 X (some ⟨ga, 0, none⟩) (tornL 96 [x]) := ⟨hr8, fun b' off' s' e' _ gx => by
                  have h1 := HS7.out.ch.old b' gx
                  injection e' with e'
                  injection e' with e'
                  omega⟩
                have hP := bprogram_any hS8.mg hS8.ch rfl (hS8.iv.len.trans hS8.iv.nb.symm) hS8.xg (by rw [hS8.iv.nb]; exact hS8.fm) (by rw [hS8.iv.nb]; exact hS8.fg) _ 96 96 (tornL 96 [x]) hrx (tornL_len _ _)
                dsimp only at hP
                have HS8 := Lib.hid hS8
                have HSz8 := Lib.hid hb78.size
                clear hr8 hb78 hS8 hrx HTn HRo hga hcc7 hU
                rcases hpr with ⟨kb, pg, l', c', hR, hiv⟩ | ⟨hR, hno⟩
                · rw [hR] at hP
                  have HP := Lib.hid hP
                  have HIv := Lib.hid hiv
                  clear hP hR hiv
                  obtain ⟨i0, hi, hz0, hz1, hz2⟩ := info_parts Try.infoInt
                  go_wp2_with fail
                  refine HP.out.mono ?_
                  rintro r w9 ⟨rfl, hm9, hc9, hk9⟩
                  rw [HS8.out.iv.nb] at hk9
                  obtain ⟨own9, bel9⟩ := HS8.out.own_call hk9
                  dsimp only at hm9 hc9
                  have HM9 := Lib.hid hm9
                  have HC9 := Lib.hid hc9
                  have HB9 := Lib.hid bel9
                  have hsz9 := bel9.size
                  clear hm9 hc9 bel9 hk9 HP
                  go_wp2_with (at_builtin; refine wpList_append_own_at _ rfl _ _ 24 rfl w.heap.size 3 i0 (.int .i64 0) 1 8 Try.underlying24 hi hz0 hz1 hz2 rfl (by decide) (.slice va 0 vc) 0 [] rfl (own9.alloc _) ⟨w9.heap.size, 0, none⟩ 1 1 [.int .i64 kb] rfl rfl (cell_one_new _ _ _) (by simp [Value.oneCell']) (by unfold maxLen; omega) (by omega) (by rw [World.size_alloc]; omega) ?_)
                  intro v' w10 hown hgr _ hloc
                  obtain ⟨X', hX'⟩ := Ws.push (v := .slice va 0 vc) HM9.out HC9.out HS8.out.xg HS8.out.xlo HS8.out.fm HS8.out.fg HB9.out HS8.out.hv HIv.out (by rw [List.map_append]; exact hown) hgr (by rw [World.size_alloc]; exact hloc)
                  have HX' := Lib.hid (hX'.mono (show k ≤ k + 1 by omega))
                  clear hown hgr hloc hX' HM9 HC9 HB9 HIv HS8 own9 hi hz0 hz1 hz2
                  go_wp2_with fail
                  go_roundw
                  case rel => exact ⟨k + 1, _, X', _, c', by omega, by omega, (by rw [List.length_append]; exact Nat.succ_le_succ hhl), by go_num, HX'⟩
                  case measure => simp [intOf]; omega
                · rw [hR] at hP
                  have HP := Lib.hid hP
                  have HZ := Lib.hid (rmk_zero (np := 8) 16 hno)
                  clear hP hR hno
                  go_wp2_with fail
                  refine HP.out.mono ?_
                  rintro r w9 ⟨rfl, hm9, hc9, hk9⟩
                  rw [HS8.out.iv.nb] at hk9
                  have hS9 := HS8.out.call hk9 hm9 hc9 HS8.out.iv rfl
                  have hRm := broom_any hS9.mg hS9.ch rfl
                  dsimp only at hRm
                  rw [hS9.iv.np, hS9.iv.len] at hRm
                  have hRm : Calls Try.prog 20 #[.pointer (some ⟨M, 0, none⟩)] w9 fun e w' => e = .returned (.int .i64 0) ∧ Below w9.heap.size w9 w' := by
                    have hz := HZ.out
                    have hRm : Calls Try.prog 20 #[.pointer (some ⟨M, 0, none⟩)] w9 fun e w' => e = .returned (.int .i64 (rmk 8 l 16)) ∧ Below w9.heap.size w9 w' := hRm
                    rw [hz] at hRm
                    exact hRm
                  have HRm := Lib.hid hRm
                  have HS9 := Lib.hid hS9
                  clear hm9 hc9 hk9 hS9 hRm HP HS8
                  go_wp2_with fail
                  refine HRm.out.mono ?_
                  rintro r w10 ⟨rfl, hb10⟩
                  have HS10 := Lib.hid ((HS9.out.below hb10).mono (show k ≤ k + 1 by omega))
                  clear hb10 HS9 HRm
                  go_wp2_with fail
                  go_roundw
                  case rel => exact ⟨k + 1, [], X, l, c, by omega, by omega, by omega, by go_num, HS10⟩
                  case measure => simp [intOf]; omega
            have n1 : (kd == 1) = false := beq_eq_false_iff_ne.2 k1
            have n3 : (kd == 3) = false := beq_eq_false_iff_ne.2 k3
            have HS7 := HS
            have hcc7 := hcc
            clear HS hcc HNe HA HA1 k1 k3
            generalize w6 = w7 at HS7 hcc7 a1' a2' ⊢
            have hpr := HS7.out.iv.prog (tornL 96 [x]) (tornL_len _ _)
            have HRo := Lib.hid (Rw.one w7 x hU)
            have HTn := Lib.hid (ttorn_any (some ⟨w7.heap.size, 0, none⟩) 1 1 [x] _ HRo.out rfl)
            go_wp2_with fail
            refine HTn.out.mono ?_
            rintro r w8 ⟨rfl, hr8, hb8⟩
            have hba := ((Below.refl _ w7).alloc (Nat.le_refl _) (.cells #[.int .u8 x] 5))
            have hb78 : Below w7.heap.size w7 w8 := hba.trans (hb8.mono hba.size)
            have hS8 := HS7.out.below hb78
            have hga : w7.heap.size < (w7.alloc (.cells #[.int .u8 x] 5)).heap.size := by rw [World.size_alloc]; omega
            clear hb8 hba
            generalize (w7.alloc (.cells #[.int .u8 x] 5)).heap.size = ga at hr8 hga ⊢
            have hrx : RwX w8 X (some ⟨ga, 0, none⟩) (tornL 96 [x]) := ⟨hr8, fun b' off' s' e' _ gx => by
              have h1 := HS7.out.ch.old b' gx
              injection e' with e'
              injection e' with e'
              omega⟩
            have hP := bprogram_any hS8.mg hS8.ch rfl (hS8.iv.len.trans hS8.iv.nb.symm) hS8.xg (by rw [hS8.iv.nb]; exact hS8.fm) (by rw [hS8.iv.nb]; exact hS8.fg) _ 96 96 (tornL 96 [x]) hrx (tornL_len _ _)
            dsimp only at hP
            have HS8 := Lib.hid hS8
            have HSz8 := Lib.hid hb78.size
            clear hr8 hb78 hS8 hrx HTn HRo hga a1' a2' hcc7 hU
            rcases hpr with ⟨kb, pg, l', c', hR, hiv⟩ | ⟨hR, hno⟩
            · rw [hR] at hP
              have HP := Lib.hid hP
              have HIv := Lib.hid hiv
              clear hP hR hiv
              obtain ⟨i0, hi, hz0, hz1, hz2⟩ := info_parts Try.infoInt
              go_wp2_with fail
              refine HP.out.mono ?_
              rintro r w9 ⟨rfl, hm9, hc9, hk9⟩
              rw [HS8.out.iv.nb] at hk9
              obtain ⟨own9, bel9⟩ := HS8.out.own_call hk9
              dsimp only at hm9 hc9
              have HM9 := Lib.hid hm9
              have HC9 := Lib.hid hc9
              have HB9 := Lib.hid bel9
              have hsz9 := bel9.size
              clear hm9 hc9 bel9 hk9 HP
              go_wp2_with (at_builtin; refine wpList_append_own_at _ rfl _ _ 24 rfl w.heap.size 3 i0 (.int .i64 0) 1 8 Try.underlying24 hi hz0 hz1 hz2 rfl (by decide) (.slice va 0 vc) 0 [] rfl (own9.alloc _) ⟨w9.heap.size, 0, none⟩ 1 1 [.int .i64 kb] rfl rfl (cell_one_new _ _ _) (by simp [Value.oneCell']) (by unfold maxLen; omega) (by omega) (by rw [World.size_alloc]; omega) ?_)
              intro v' w10 hown hgr _ hloc
              obtain ⟨X', hX'⟩ := Ws.push (v := .slice va 0 vc) HM9.out HC9.out HS8.out.xg HS8.out.xlo HS8.out.fm HS8.out.fg HB9.out HS8.out.hv HIv.out (by rw [List.map_append]; exact hown) hgr (by rw [World.size_alloc]; exact hloc)
              have HX' := Lib.hid (hX'.mono (show k ≤ k + 1 by omega))
              clear hown hgr hloc hX' HM9 HC9 HB9 HIv HS8 own9 hi hz0 hz1 hz2
              go_wp2_with fail
              go_roundw
              case rel => exact ⟨k + 1, _, X', _, c', by omega, by omega, (by rw [List.length_append]; exact Nat.succ_le_succ hhl), by go_num, HX'⟩
              case measure => simp [intOf]; omega
            · rw [hR] at hP
              have HP := Lib.hid hP
              have HZ := Lib.hid (rmk_zero (np := 8) 16 hno)
              clear hP hR hno
              go_wp2_with fail
              refine HP.out.mono ?_
              rintro r w9 ⟨rfl, hm9, hc9, hk9⟩
              rw [HS8.out.iv.nb] at hk9
              have hS9 := HS8.out.call hk9 hm9 hc9 HS8.out.iv rfl
              have hRm := broom_any hS9.mg hS9.ch rfl
              dsimp only at hRm
              rw [hS9.iv.np, hS9.iv.len] at hRm
              have hRm : Calls Try.prog 20 #[.pointer (some ⟨M, 0, none⟩)] w9 fun e w' => e = .returned (.int .i64 0) ∧ Below w9.heap.size w9 w' := by
                have hz := HZ.out
                have hRm : Calls Try.prog 20 #[.pointer (some ⟨M, 0, none⟩)] w9 fun e w' => e = .returned (.int .i64 (rmk 8 l 16)) ∧ Below w9.heap.size w9 w' := hRm
                rw [hz] at hRm
                exact hRm
              have HRm := Lib.hid hRm
              have HS9 := Lib.hid hS9
              clear hm9 hc9 hk9 hS9 hRm HP HS8
              go_wp2_with fail
              refine HRm.out.mono ?_
              rintro r w10 ⟨rfl, hb10⟩
              have HS10 := Lib.hid ((HS9.out.below hb10).mono (show k ≤ k + 1 by omega))
              clear hb10 HS9 HRm
              go_wp2_with fail
              go_roundw
              case rel => exact ⟨k + 1, [], X, l, c, by omega, by omega, by omega, by go_num, HS10⟩
              case measure => simp [intOf]; omega
          · clear hd
            by_cases k1 : kd = 1
            · subst k1
              have HFr := Lib.hid (bfree_any HS.out.mg)
              dsimp only at HFr
              generalize cnt 0 l l.length = fr at HFr

              go_wp2_with fail
              refine HFr.out.mono ?_
              rintro r w7 ⟨rfl, hb7⟩
              have HS7 := Lib.hid (HS.out.below hb7)
              have hcc7 : w7.cell? ⟨b, off + k, none⟩ = some (.int .u8 x) := (hb7.cell (p := ⟨b, off + k, none⟩) (block_lt_of_cell hcc)).trans hcc
              have hA7 := HA.out.below hb7 HA.out.lt
              have b1' := hA7.cell 0
              have b2' := hA7.cell 1
              simp at b1' b2'
              clear hb7 HS HA HA1 a1' a2' hcc hA7 HFr
              by_cases hfr : fr < 4
              · have tf : decide (fr < 4) = true := decide_eq_true hfr
                obtain ⟨q, hq, rfl, hst, hw⟩ := HNe.out (by simp)
                obtain ⟨l', c', hT, hiv⟩ := HS7.out.iv.era q hq hst hw (by omega)
                have hE := bera_any HS7.out.mg HS7.out.ch rfl HS7.out.xg (by rw [HS7.out.iv.nb]; exact HS7.out.fm) (by rw [HS7.out.iv.nb]; exact HS7.out.fg) (q : Int)
                dsimp only at hE
                rw [hT] at hE
                have HE := Lib.hid hE
                have HIv := Lib.hid hiv
                clear hE hT hiv hst hw hq
                go_wp2_with fail
                refine HE.out.mono ?_
                rintro r w8 ⟨rfl, hm8, hc8, hk8⟩
                rw [HS7.out.iv.nb] at hk8
                have hS8 := HS7.out.call hk8 hm8 hc8 HIv.out rfl
                have hGp := gap_any hS8.ch (fun j hj => (hS8.iv.cln j (by rw [← hS8.iv.nb]; exact hj)).1) (fun j hj => by have := hS8.iv.wr j (by rw [← hS8.iv.nb]; exact hj); omega)
                have hgv := hS8.iv.gpL
                generalize (gpL c'.wear c'.nb).2 - (gpL c'.wear c'.nb).1 = gv at hGp hgv
                have HGp := Lib.hid hGp
                have HS8 := Lib.hid hS8
                have tg : decide (4 < gv) = false := decide_eq_false (by omega)
                clear hm8 hc8 hk8 hS8 hGp hgv HE HIv
                go_wp2_with fail
                refine HGp.out.mono ?_
                rintro r w9 ⟨rfl, hb9⟩
                have HS9 := Lib.hid (HS8.out.below hb9)
                clear hb9 HS8 HGp
                go_wp2_with fail
                go_roundw
                case rel => exact ⟨k + 1, held, X, l', c', by omega, by omega, by omega, by go_num, HS9⟩
                case measure => simp [intOf]; omega

              · have tf : decide (fr < 4) = false := decide_eq_false hfr
                clear b1' b2' HNe
                have hpr := HS7.out.iv.prog (tornL 96 [x]) (tornL_len _ _)
                have HRo := Lib.hid (Rw.one w7 x hU)
                have HTn := Lib.hid (ttorn_any (some ⟨w7.heap.size, 0, none⟩) 1 1 [x] _ HRo.out rfl)
                go_wp2_with fail
                refine HTn.out.mono ?_
                rintro r w8 ⟨rfl, hr8, hb8⟩
                have hba := ((Below.refl _ w7).alloc (Nat.le_refl _) (.cells #[.int .u8 x] 5))
                have hb78 : Below w7.heap.size w7 w8 := hba.trans (hb8.mono hba.size)
                have hS8 := HS7.out.below hb78
                have hga : w7.heap.size < (w7.alloc (.cells #[.int .u8 x] 5)).heap.size := by rw [World.size_alloc]; omega
                clear hb8 hba
                generalize (w7.alloc (.cells #[.int .u8 x] 5)).heap.size = ga at hr8 hga ⊢
                have hrx : RwX w8 X (some ⟨ga, 0, none⟩) (tornL 96 [x]) := ⟨hr8, fun b' off' s' e' _ gx => by
                  have h1 := HS7.out.ch.old b' gx
                  injection e' with e'
                  injection e' with e'
                  omega⟩
                have hP := bprogram_any hS8.mg hS8.ch rfl (hS8.iv.len.trans hS8.iv.nb.symm) hS8.xg (by rw [hS8.iv.nb]; exact hS8.fm) (by rw [hS8.iv.nb]; exact hS8.fg) _ 96 96 (tornL 96 [x]) hrx (tornL_len _ _)
                dsimp only at hP
                have HS8 := Lib.hid hS8
                have HSz8 := Lib.hid hb78.size
                clear hr8 hb78 hS8 hrx HTn HRo hga hcc7 hU
                rcases hpr with ⟨kb, pg, l', c', hR, hiv⟩ | ⟨hR, hno⟩
                · rw [hR] at hP
                  have HP := Lib.hid hP
                  have HIv := Lib.hid hiv
                  clear hP hR hiv
                  obtain ⟨i0, hi, hz0, hz1, hz2⟩ := info_parts Try.infoInt
                  go_wp2_with fail
                  refine HP.out.mono ?_
                  rintro r w9 ⟨rfl, hm9, hc9, hk9⟩
                  rw [HS8.out.iv.nb] at hk9
                  obtain ⟨own9, bel9⟩ := HS8.out.own_call hk9
                  dsimp only at hm9 hc9
                  have HM9 := Lib.hid hm9
                  have HC9 := Lib.hid hc9
                  have HB9 := Lib.hid bel9
                  have hsz9 := bel9.size
                  clear hm9 hc9 bel9 hk9 HP
                  go_wp2_with (at_builtin; refine wpList_append_own_at _ rfl _ _ 24 rfl w.heap.size 3 i0 (.int .i64 0) 1 8 Try.underlying24 hi hz0 hz1 hz2 rfl (by decide) (.slice va held.length vc) held.length (held.map (Value.int .i64)) rfl (own9.alloc _) ⟨w9.heap.size, 0, none⟩ 1 1 [.int .i64 kb] rfl rfl (cell_one_new _ _ _) (by simp [Value.oneCell']) (by unfold maxLen; omega) (by omega) (by rw [World.size_alloc]; omega) ?_)
                  intro v' w10 hown hgr _ hloc
                  obtain ⟨X', hX'⟩ := Ws.push (v := .slice va held.length vc) HM9.out HC9.out HS8.out.xg HS8.out.xlo HS8.out.fm HS8.out.fg HB9.out HS8.out.hv HIv.out (by rw [List.map_append]; exact hown) hgr (by rw [World.size_alloc]; exact hloc)
                  have HX' := Lib.hid (hX'.mono (show k ≤ k + 1 by omega))
                  clear hown hgr hloc hX' HM9 HC9 HB9 HIv HS8 own9 hi hz0 hz1 hz2
                  go_wp2_with fail
                  go_roundw
                  case rel => exact ⟨k + 1, _, X', _, c', by omega, by omega, (by rw [List.length_append]; exact Nat.succ_le_succ hhl), by go_num, HX'⟩
                  case measure => simp [intOf]; omega
                · rw [hR] at hP
                  have HP := Lib.hid hP
                  have HZ := Lib.hid (rmk_zero (np := 8) 16 hno)
                  clear hP hR hno
                  go_wp2_with fail
                  refine HP.out.mono ?_
                  rintro r w9 ⟨rfl, hm9, hc9, hk9⟩
                  rw [HS8.out.iv.nb] at hk9
                  have hS9 := HS8.out.call hk9 hm9 hc9 HS8.out.iv rfl
                  have hRm := broom_any hS9.mg hS9.ch rfl
                  dsimp only at hRm
                  rw [hS9.iv.np, hS9.iv.len] at hRm
                  have hRm : Calls Try.prog 20 #[.pointer (some ⟨M, 0, none⟩)] w9 fun e w' => e = .returned (.int .i64 0) ∧ Below w9.heap.size w9 w' := by
                    have hz := HZ.out
                    have hRm : Calls Try.prog 20 #[.pointer (some ⟨M, 0, none⟩)] w9 fun e w' => e = .returned (.int .i64 (rmk 8 l 16)) ∧ Below w9.heap.size w9 w' := hRm
                    rw [hz] at hRm
                    exact hRm
                  have HRm := Lib.hid hRm
                  have HS9 := Lib.hid hS9
                  clear hm9 hc9 hk9 hS9 hRm HP HS8
                  go_wp2_with fail
                  refine HRm.out.mono ?_
                  rintro r w10 ⟨rfl, hb10⟩
                  have HS10 := Lib.hid ((HS9.out.below hb10).mono (show k ≤ k + 1 by omega))
                  clear hb10 HS9 HRm
                  go_wp2_with fail
                  go_roundw
                  case rel => exact ⟨k + 1, held, X, l, c, by omega, by omega, by omega, by go_num, HS10⟩
                  case measure => simp [intOf]; omega
            by_cases k3 : kd = 3
            · subst k3
              have HFr := Lib.hid (bfree_any HS.out.mg)
              dsimp only at HFr
              generalize cnt 0 l l.length = fr at HFr
              clear k1

              go_wp2_with fail
              refine HFr.out.mono ?_
              rintro r w7 ⟨rfl, hb7⟩
              have HS7 := Lib.hid (HS.out.below hb7)
              have hcc7 : w7.cell? ⟨b, off + k, none⟩ = some (.int .u8 x) := (hb7.cell (p := ⟨b, off + k, none⟩) (block_lt_of_cell hcc)).trans hcc
              have hA7 := HA.out.below hb7 HA.out.lt
              have b1' := hA7.cell 0
              have b2' := hA7.cell 1
              simp at b1' b2'
              clear hb7 HS HA HA1 a1' a2' hcc hA7 HFr
              by_cases hfr : fr < 4
              · have tf : decide (fr < 4) = true := decide_eq_true hfr
                obtain ⟨q, hq, rfl, hst, hw⟩ := HNe.out (by simp)
                obtain ⟨l', c', hT, hiv⟩ := HS7.out.iv.era q hq hst hw (by omega)
                have hE := bera_any HS7.out.mg HS7.out.ch rfl HS7.out.xg (by rw [HS7.out.iv.nb]; exact HS7.out.fm) (by rw [HS7.out.iv.nb]; exact HS7.out.fg) (q : Int)
                dsimp only at hE
                rw [hT] at hE
                have HE := Lib.hid hE
                have HIv := Lib.hid hiv
                clear hE hT hiv hst hw hq
                go_wp2_with fail
                refine HE.out.mono ?_
                rintro r w8 ⟨rfl, hm8, hc8, hk8⟩
                rw [HS7.out.iv.nb] at hk8
                have hS8 := HS7.out.call hk8 hm8 hc8 HIv.out rfl
                have hGp := gap_any hS8.ch (fun j hj => (hS8.iv.cln j (by rw [← hS8.iv.nb]; exact hj)).1) (fun j hj => by have := hS8.iv.wr j (by rw [← hS8.iv.nb]; exact hj); omega)
                have hgv := hS8.iv.gpL
                generalize (gpL c'.wear c'.nb).2 - (gpL c'.wear c'.nb).1 = gv at hGp hgv
                have HGp := Lib.hid hGp
                have HS8 := Lib.hid hS8
                have tg : decide (4 < gv) = false := decide_eq_false (by omega)
                clear hm8 hc8 hk8 hS8 hGp hgv HE HIv
                go_wp2_with fail
                refine HGp.out.mono ?_
                rintro r w9 ⟨rfl, hb9⟩
                have HS9 := Lib.hid (HS8.out.below hb9)
                clear hb9 HS8 HGp
                go_wp2_with fail
                go_roundw
                case rel => exact ⟨k + 1, held, X, l', c', by omega, by omega, by omega, by go_num, HS9⟩
                case measure => simp [intOf]; omega

              · have tf : decide (fr < 4) = false := decide_eq_false hfr
                clear b1' b2' HNe
                have hpr := HS7.out.iv.prog (tornL 96 [x]) (tornL_len _ _)
                have HRo := Lib.hid (Rw.one w7 x hU)
                have HTn := Lib.hid (ttorn_any (some ⟨w7.heap.size, 0, none⟩) 1 1 [x] _ HRo.out rfl)
                go_wp2_with fail
                refine HTn.out.mono ?_
                rintro r w8 ⟨rfl, hr8, hb8⟩
                have hba := ((Below.refl _ w7).alloc (Nat.le_refl _) (.cells #[.int .u8 x] 5))
                have hb78 : Below w7.heap.size w7 w8 := hba.trans (hb8.mono hba.size)
                have hS8 := HS7.out.below hb78
                have hga : w7.heap.size < (w7.alloc (.cells #[.int .u8 x] 5)).heap.size := by rw [World.size_alloc]; omega
                clear hb8 hba
                generalize (w7.alloc (.cells #[.int .u8 x] 5)).heap.size = ga at hr8 hga ⊢
                have hrx : RwX w8 X (some ⟨ga, 0, none⟩) (tornL 96 [x]) := ⟨hr8, fun b' off' s' e' _ gx => by
                  have h1 := HS7.out.ch.old b' gx
                  injection e' with e'
                  injection e' with e'
                  omega⟩
                have hP := bprogram_any hS8.mg hS8.ch rfl (hS8.iv.len.trans hS8.iv.nb.symm) hS8.xg (by rw [hS8.iv.nb]; exact hS8.fm) (by rw [hS8.iv.nb]; exact hS8.fg) _ 96 96 (tornL 96 [x]) hrx (tornL_len _ _)
                dsimp only at hP
                have HS8 := Lib.hid hS8
                have HSz8 := Lib.hid hb78.size
                clear hr8 hb78 hS8 hrx HTn HRo hga hcc7 hU
                rcases hpr with ⟨kb, pg, l', c', hR, hiv⟩ | ⟨hR, hno⟩
                · rw [hR] at hP
                  have HP := Lib.hid hP
                  have HIv := Lib.hid hiv
                  clear hP hR hiv
                  obtain ⟨i0, hi, hz0, hz1, hz2⟩ := info_parts Try.infoInt
                  go_wp2_with fail
                  refine HP.out.mono ?_
                  rintro r w9 ⟨rfl, hm9, hc9, hk9⟩
                  rw [HS8.out.iv.nb] at hk9
                  obtain ⟨own9, bel9⟩ := HS8.out.own_call hk9
                  dsimp only at hm9 hc9
                  have HM9 := Lib.hid hm9
                  have HC9 := Lib.hid hc9
                  have HB9 := Lib.hid bel9
                  have hsz9 := bel9.size
                  clear hm9 hc9 bel9 hk9 HP
                  go_wp2_with (at_builtin; refine wpList_append_own_at _ rfl _ _ 24 rfl w.heap.size 3 i0 (.int .i64 0) 1 8 Try.underlying24 hi hz0 hz1 hz2 rfl (by decide) (.slice va held.length vc) held.length (held.map (Value.int .i64)) rfl (own9.alloc _) ⟨w9.heap.size, 0, none⟩ 1 1 [.int .i64 kb] rfl rfl (cell_one_new _ _ _) (by simp [Value.oneCell']) (by unfold maxLen; omega) (by omega) (by rw [World.size_alloc]; omega) ?_)
                  intro v' w10 hown hgr _ hloc
                  obtain ⟨X', hX'⟩ := Ws.push (v := .slice va held.length vc) HM9.out HC9.out HS8.out.xg HS8.out.xlo HS8.out.fm HS8.out.fg HB9.out HS8.out.hv HIv.out (by rw [List.map_append]; exact hown) hgr (by rw [World.size_alloc]; exact hloc)
                  have HX' := Lib.hid (hX'.mono (show k ≤ k + 1 by omega))
                  clear hown hgr hloc hX' HM9 HC9 HB9 HIv HS8 own9 hi hz0 hz1 hz2
                  go_wp2_with fail
                  go_roundw
                  case rel => exact ⟨k + 1, _, X', _, c', by omega, by omega, (by rw [List.length_append]; exact Nat.succ_le_succ hhl), by go_num, HX'⟩
                  case measure => simp [intOf]; omega
                · rw [hR] at hP
                  have HP := Lib.hid hP
                  have HZ := Lib.hid (rmk_zero (np := 8) 16 hno)
                  clear hP hR hno
                  go_wp2_with fail
                  refine HP.out.mono ?_
                  rintro r w9 ⟨rfl, hm9, hc9, hk9⟩
                  rw [HS8.out.iv.nb] at hk9
                  have hS9 := HS8.out.call hk9 hm9 hc9 HS8.out.iv rfl
                  have hRm := broom_any hS9.mg hS9.ch rfl
                  dsimp only at hRm
                  rw [hS9.iv.np, hS9.iv.len] at hRm
                  have hRm : Calls Try.prog 20 #[.pointer (some ⟨M, 0, none⟩)] w9 fun e w' => e = .returned (.int .i64 0) ∧ Below w9.heap.size w9 w' := by
                    have hz := HZ.out
                    have hRm : Calls Try.prog 20 #[.pointer (some ⟨M, 0, none⟩)] w9 fun e w' => e = .returned (.int .i64 (rmk 8 l 16)) ∧ Below w9.heap.size w9 w' := hRm
                    rw [hz] at hRm
                    exact hRm
                  have HRm := Lib.hid hRm
                  have HS9 := Lib.hid hS9
                  clear hm9 hc9 hk9 hS9 hRm HP HS8
                  go_wp2_with fail
                  refine HRm.out.mono ?_
                  rintro r w10 ⟨rfl, hb10⟩
                  have HS10 := Lib.hid ((HS9.out.below hb10).mono (show k ≤ k + 1 by omega))
                  clear hb10 HS9 HRm
                  go_wp2_with fail
                  go_roundw
                  case rel => exact ⟨k + 1, held, X, l, c, by omega, by omega, by omega, by go_num, HS10⟩
                  case measure => simp [intOf]; omega
            have n1 : (kd == 1) = false := beq_eq_false_iff_ne.2 k1
            have n3 : (kd == 3) = false := beq_eq_false_iff_ne.2 k3
            have HS7 := HS
            have hcc7 := hcc
            clear HS hcc HNe HA HA1 k1 k3
            generalize w6 = w7 at HS7 hcc7 a1' a2' ⊢
            have hpr := HS7.out.iv.prog (tornL 96 [x]) (tornL_len _ _)
            have HRo := Lib.hid (Rw.one w7 x hU)
            have HTn := Lib.hid (ttorn_any (some ⟨w7.heap.size, 0, none⟩) 1 1 [x] _ HRo.out rfl)
            go_wp2_with fail
            refine HTn.out.mono ?_
            rintro r w8 ⟨rfl, hr8, hb8⟩
            have hba := ((Below.refl _ w7).alloc (Nat.le_refl _) (.cells #[.int .u8 x] 5))
            have hb78 : Below w7.heap.size w7 w8 := hba.trans (hb8.mono hba.size)
            have hS8 := HS7.out.below hb78
            have hga : w7.heap.size < (w7.alloc (.cells #[.int .u8 x] 5)).heap.size := by rw [World.size_alloc]; omega
            clear hb8 hba
            generalize (w7.alloc (.cells #[.int .u8 x] 5)).heap.size = ga at hr8 hga ⊢
            have hrx : RwX w8 X (some ⟨ga, 0, none⟩) (tornL 96 [x]) := ⟨hr8, fun b' off' s' e' _ gx => by
              have h1 := HS7.out.ch.old b' gx
              injection e' with e'
              injection e' with e'
              omega⟩
            have hP := bprogram_any hS8.mg hS8.ch rfl (hS8.iv.len.trans hS8.iv.nb.symm) hS8.xg (by rw [hS8.iv.nb]; exact hS8.fm) (by rw [hS8.iv.nb]; exact hS8.fg) _ 96 96 (tornL 96 [x]) hrx (tornL_len _ _)
            dsimp only at hP
            have HS8 := Lib.hid hS8
            have HSz8 := Lib.hid hb78.size
            clear hr8 hb78 hS8 hrx HTn HRo hga a1' a2' hcc7 hU
            rcases hpr with ⟨kb, pg, l', c', hR, hiv⟩ | ⟨hR, hno⟩
            · rw [hR] at hP
              have HP := Lib.hid hP
              have HIv := Lib.hid hiv
              clear hP hR hiv
              obtain ⟨i0, hi, hz0, hz1, hz2⟩ := info_parts Try.infoInt
              go_wp2_with fail
              refine HP.out.mono ?_
              rintro r w9 ⟨rfl, hm9, hc9, hk9⟩
              rw [HS8.out.iv.nb] at hk9
              obtain ⟨own9, bel9⟩ := HS8.out.own_call hk9
              dsimp only at hm9 hc9
              have HM9 := Lib.hid hm9
              have HC9 := Lib.hid hc9
              have HB9 := Lib.hid bel9
              have hsz9 := bel9.size
              clear hm9 hc9 bel9 hk9 HP
              go_wp2_with (at_builtin; refine wpList_append_own_at _ rfl _ _ 24 rfl w.heap.size 3 i0 (.int .i64 0) 1 8 Try.underlying24 hi hz0 hz1 hz2 rfl (by decide) (.slice va held.length vc) held.length (held.map (Value.int .i64)) rfl (own9.alloc _) ⟨w9.heap.size, 0, none⟩ 1 1 [.int .i64 kb] rfl rfl (cell_one_new _ _ _) (by simp [Value.oneCell']) (by unfold maxLen; omega) (by omega) (by rw [World.size_alloc]; omega) ?_)
              intro v' w10 hown hgr _ hloc
              obtain ⟨X', hX'⟩ := Ws.push (v := .slice va held.length vc) HM9.out HC9.out HS8.out.xg HS8.out.xlo HS8.out.fm HS8.out.fg HB9.out HS8.out.hv HIv.out (by rw [List.map_append]; exact hown) hgr (by rw [World.size_alloc]; exact hloc)
              have HX' := Lib.hid (hX'.mono (show k ≤ k + 1 by omega))
              clear hown hgr hloc hX' HM9 HC9 HB9 HIv HS8 own9 hi hz0 hz1 hz2
              go_wp2_with fail
              go_roundw
              case rel => exact ⟨k + 1, _, X', _, c', by omega, by omega, (by rw [List.length_append]; exact Nat.succ_le_succ hhl), by go_num, HX'⟩
              case measure => simp [intOf]; omega
            · rw [hR] at hP
              have HP := Lib.hid hP
              have HZ := Lib.hid (rmk_zero (np := 8) 16 hno)
              clear hP hR hno
              go_wp2_with fail
              refine HP.out.mono ?_
              rintro r w9 ⟨rfl, hm9, hc9, hk9⟩
              rw [HS8.out.iv.nb] at hk9
              have hS9 := HS8.out.call hk9 hm9 hc9 HS8.out.iv rfl
              have hRm := broom_any hS9.mg hS9.ch rfl
              dsimp only at hRm
              rw [hS9.iv.np, hS9.iv.len] at hRm
              have hRm : Calls Try.prog 20 #[.pointer (some ⟨M, 0, none⟩)] w9 fun e w' => e = .returned (.int .i64 0) ∧ Below w9.heap.size w9 w' := by
                have hz := HZ.out
                have hRm : Calls Try.prog 20 #[.pointer (some ⟨M, 0, none⟩)] w9 fun e w' => e = .returned (.int .i64 (rmk 8 l 16)) ∧ Below w9.heap.size w9 w' := hRm
                rw [hz] at hRm
                exact hRm
              have HRm := Lib.hid hRm
              have HS9 := Lib.hid hS9
              clear hm9 hc9 hk9 hS9 hRm HP HS8
              go_wp2_with fail
              refine HRm.out.mono ?_
              rintro r w10 ⟨rfl, hb10⟩
              have HS10 := Lib.hid ((HS9.out.below hb10).mono (show k ≤ k + 1 by omega))
              clear hb10 HS9 HRm
              go_wp2_with fail
              go_roundw
              case rel => exact ⟨k + 1, held, X, l, c, by omega, by omega, by omega, by go_num, HS10⟩
              case measure => simp [intOf]; omega

theorem topWears_walk (a : Option Addr) (len cap : Nat) (z : List Int) (w : World) (hz : Row8 w a len cap z) :
    Calls Try.prog 5 #[.slice a len cap] w fun e w' => e = .returned (.bool true) ∧ Below w.heap.size w w' := by
  obtain ⟨l, hl, _, hr, -⟩ := hz.rw
  have hn : len ≤ maxLen := by have := hr.2.1; omega
  exact topWears_main a len cap l w hr hl hn
end Go.Proofs.Ytnnpdlebgfjihaa
