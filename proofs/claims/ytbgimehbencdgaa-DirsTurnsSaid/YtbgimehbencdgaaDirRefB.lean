/-
  The bytes of a row of entries: the document's answer. Nothing of one statement alone stands here.
-/
import Derived.Test.YtbgimehbencdgaaDirRefE
namespace Go.Proofs.Ytbgimehbencdgaa
open Go.RowKit Crcm Tagm Dirm Go.ChangeShapes

theorem eb_le (x : En) : (eb x).length ≤ 16 := by
  unfold eb
  split
  · exact Nat.le_refl _
  · unfold wB
    split
    · rename_i h
      rw [sb_length (w_yes h).2.1.2]
      exact Nat.le_refl _
    · exact Nat.zero_le _
theorem cat_le : ∀ (L : List En), (cat L).length ≤ L.length * 16
  | [] => Nat.le_refl _
  | x :: r => by
    have := eb_le x
    have := cat_le r
    rw [cat, List.length_append, List.length_cons]
    omega
theorem cat_take {L : List En} {t : Nat} (h : t < L.length) : cat (L.take (t + 1)) = cat (L.take t) ++ eb L[t]! := by
  rw [List.take_succ_eq_append_getElem h, cat_snoc, getElem!_pos L t h]

set_option maxRecDepth 100000 in
set_option maxHeartbeats 2000000 in
theorem rbytes_any (L : List En) (A : Option Addr) (n c : Nat) (w : World) (hr : ER w A L) (hl : L.length = n) (hc : n ≤ c) (hn : n ≤ 20000) :
    Calls Try.prog 22 #[.slice A n c] w fun e w' => (∃ v, e = .returned v ∧ w'.ownsRow w.heap.size 5 1 v (byB L).length ((byB L).map (Value.int .u8))) ∧ Below w.heap.size w w' := by
  obtain ⟨q, hq⟩ : ∃ q, stE L n = q := ⟨_, rfl⟩
  have hqn : q ≤ n := by rw [← hq]; exact stE_le _ _
  have hB : byB L = cat (L.take q) := by unfold byB; rw [hl, hq]
  rw [hB]
  have HR := Lib.hid hr
  have HL := Lib.hid hl
  have HQ := Lib.hid hq
  have HQn := Lib.hid hqn
  clear hr hl hq hqn hB
  go_enter Try.func22, Try.ntmps22
  go_wp2_with fail
  go_loop [0] (fun v => ∃ j : Nat, j ≤ n ∧ v = .slice A j c ∧ Hid (stE L j = q)) (fun v => lenV v)
  case atStart => exact ⟨n, Nat.le_refl _, rfl, HQ⟩
  case round =>
    obtain ⟨j, hj, rfl, E⟩ := hrel
    by_cases h0 : 0 < j
    · obtain ⟨j, rfl⟩ : ∃ x, j = x + 1 := ⟨j - 1, by omega⟩
      obtain ⟨g, rfl, y0, y1⟩ := HR.out.at (j := j) (by rw [HL.out]; omega)
      have HS : Hid (stE L (j + 1) = if L[j]!.1 = 0 then stE L j else j + 1) := Lib.hid (by rw [stE])
      obtain ⟨x, hx⟩ : ∃ x, L[j]!.1 = x := ⟨_, rfl⟩
      rw [hx] at y0 HS
      have hct := topE g (j + 1) c j j rfl (by omega)
      clear hx y1
      by_cases hz : x = 0
      · have E2 : Hid (stE L j = q) := Lib.hid (by have := HS.out; rw [if_pos hz] at this; rw [← this]; exact E.out)
        clear E HS
        subst hz
        go_wp2
        go_round
        case rel => exact ⟨j, by omega, rfl, E2⟩
        case measure => simp [lenV]
      · have hq2 : j + 1 = q := by have := HS.out; rw [if_neg hz] at this; rw [← this]; exact E.out
        have tz : (x == 0) = false := by simpa using hz
        have HQ2 := Lib.hid hq2
        clear E HS hz hq2 HQ hct
        go_wp2_with fail
        clear y0
        go_loopw [3, 4] (fun v i wr => ∃ t : Nat, t ≤ j + 1 ∧ i = .int .i64 t ∧ Hid (wr.ownsRow w.heap.size 5 1 v (cat (L.take t)).length ((cat (L.take t)).map (Value.int .u8))) ∧ Hid (Below w.heap.size w wr)) (fun _ i _ => j + 1 - (intOf i).toNat)
        case atStart => exact ⟨0, Nat.zero_le _, rfl, Lib.hid (by rw [List.take_zero]; exact World.ownsRow_nil _ _ _ _), Lib.hid (Below.refl _ _)⟩
        case round =>
          obtain ⟨t, htq, rfl, hO, hB⟩ := hrel
          by_cases hlt : t < j + 1
          · have hlt' : (t : Int) < (j : Int) + 1 := by omega
            have htl : t < L.length := by rw [HL.out]; omega
            obtain ⟨g', e', y0, y1⟩ := HR.out.at htl
            injection e' with e'
            injection e' with e'
            subst e'
            have y0 := (hB.out.cell (block_lt_of_cell y0)).trans y0
            have y1 := (hB.out.cell (block_lt_of_cell y1)).trans y1
            have HC : Hid (cat (L.take (t + 1)) = cat (L.take t) ++ eb L[t]!) := Lib.hid (cat_take htl)
            have hle := cat_le (L.take t)
            rw [List.length_take] at hle
            obtain ⟨C, hC⟩ : ∃ C, cat (L.take t) = C := ⟨_, rfl⟩
            obtain ⟨z, hz⟩ : ∃ z, L[t]! = z := ⟨_, rfl⟩
            obtain ⟨i, s⟩ := z
            rw [hC] at hO HC hle
            rw [hz] at HC y0 y1
            have y0 : wr.cell? ⟨g, t * 2, none⟩ = some (.int .i64 i) := y0
            have y1 : wr.cell? ⟨g, t * 2 + 1, none⟩ = some (.string s) := y1
            have hCl : C.length ≤ 400000 := by omega
            clear hC hz hle htl
            by_cases hi : i = 0
            · have hb16 : eb (i, s) = List.replicate 16 0 := by unfold eb; rw [if_pos hi]; rfl
              rw [hb16] at HC
              obtain ⟨v', w', hrun, hown', hb'⟩ := run_append_zeros (k := 16) 24 hO.out (by omega) (by omega) hB.out.size
              have HO2 := Lib.hid hown'
              have HB2 := Lib.hid (hB.out.trans hb')
              subst hi
              clear hO hB hb16 hown' hb'
              go_wp2_with (at_builtin; refine Lib.wpList_append_run _ rfl _ _ _ _ rfl _ _ rfl rfl _ _ hrun ?_)
              go_wp2
              go_roundw
              case rel => exact ⟨t + 1, by omega, by go_num, by rw [HC.out, List.length_append, List.length_replicate]; exact HO2, HB2⟩
              case measure => simp [intOf]; omega
            · have hbE : eb (i, s) = wB i s := by unfold eb; rw [if_neg hi]
              rw [hbE] at HC
              have hbl : (wB i s).length ≤ 16 := by rw [← hbE]; exact eb_le _
              have ti : (i == 0) = false := by simpa using hi
              have HWr := Lib.hid (rwrite_all i s wr)
              unfold ev at HWr
              obtain ⟨bb, hbb⟩ : ∃ x, wB i s = x := ⟨_, rfl⟩
              obtain ⟨ee, hee⟩ : ∃ x, wE i s = x := ⟨_, rfl⟩
              rw [hbb, hee] at HWr
              rw [hbb] at HC hbl
              clear hbE hbb hee hi
              go_wp2_with fail
              refine HWr.out.mono ?_
              rintro e w1 ⟨⟨A1, c1, rfl, hA1⟩, hb1⟩
              have HO1 := Lib.hid (own_below hO.out hb1)
              have HB1 := Lib.hid (hB.out.trans (hb1.mono hB.out.size))
              have HA1 := Lib.hid hA1
              clear hO hB hb1 y0 y1 hA1 HWr
              go_wp2_with (at_builtin; refine append_bytes rfl _ _ rfl w.heap.size _ C.length C rfl HO1.out A1 bb.length c1 bb rfl rfl HA1.out.src (by omega) HB1.out.size ?_)
              intro v' w2 hown2 hb2
              have HO2 := Lib.hid hown2
              have HB2 := Lib.hid (HB1.out.trans hb2)
              clear hown2 hb2
              go_wp2
              go_roundw
              case rel => exact ⟨t + 1, by omega, by go_num, by rw [HC.out, List.length_append, List.map_append]; exact HO2, HB2⟩
              case measure => simp [intOf]; omega
          · have hlt' : ¬ (t : Int) < (j : Int) + 1 := by omega
            have HT : Hid (t = q) := Lib.hid (by have := HQ2.out; omega)
            go_wp2
            go_ret
            exact ⟨⟨_, rfl, by have := hO.out; rw [HT.out] at this; exact this⟩, hB.out⟩
    · obtain rfl : j = 0 := by omega
      have hq2 : 0 = q := by have := E.out; rw [stE] at this; exact this
      subst hq2
      clear E
      go_wp2_with fail
      go_loop [3, 4] (fun v i => v = .slice none 0 0 ∧ i = .int .i64 0) (fun _ _ => 0)
      case atStart => exact ⟨rfl, rfl⟩
      case round =>
        obtain ⟨rfl, rfl⟩ := hrel
        go_wp2
        go_ret
        exact ⟨⟨_, rfl, World.ownsRow_nil _ _ _ _⟩, Below.refl _ _⟩

end Go.Proofs.Ytbgimehbencdgaa
