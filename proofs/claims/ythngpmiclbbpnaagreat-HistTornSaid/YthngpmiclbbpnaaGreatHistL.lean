/-
  Operations written: a number put behind a literal's bytes; the program's call Write. Nothing of one statement alone stands here.
-/
import Derived.Test.YthngpmiclbbpnaaGreatHistW
import Derived.Test.YthngpmiclbbpnaaGreatHistR
import Derived.ArgAppend
import Derived.Lib.SmallJoins
import Derived.Lib.SlBytesConst
namespace Go.Proofs.YthngpmiclbbpnaaGreat
open Go.RowKit Crcm Tagm Go.ChangeShapes

set_option maxRecDepth 100000 in
set_option maxHeartbeats 1000000 in
/-- behind a row that has no room, whosever it is -/
theorem hnumber_full (b : Nat) (q : Nat) (l : List Int) (x : Int) (n : Nat) (w : World) (hx : U64 x) (hn : n ≤ 8) (hn1 : 0 < n) (hq : q ≤ 1000) (hr : Rw w (some ⟨b, 0, none⟩) l) (hl : l.length = q) :
    Calls Tryz.prog 14 #[.slice (some ⟨b, 0, none⟩) q q, .int .u64 x, .int .i64 n] w fun e w' => ∃ v', e = .returned v' ∧ w'.ownsRow w.heap.size 5 1 v' (q + n) ((l ++ le n x).map (Value.int .u8)) ∧ Below w.heap.size w w' := by
  obtain ⟨i0, hi, hz0, hz1, hz2⟩ := info_parts Tryz.info8
  have HR := Lib.hid hr
  have HL := Lib.hid hl
  clear hr hl
  go_enter Tryz.func14, Tryz.ntmps14
  go_wp2_with fail
  go_loopw [0, 1, 8] (fun v x' i wr => ∃ k : Nat, ∃ m : Int, k ≤ n ∧ U64 m ∧ i = .int .i64 k ∧ x' = .int .u64 m ∧ Hid (m = x / 256 ^ k) ∧ Hid ((k = 0 ∧ v = .slice (some ⟨b, 0, none⟩) q q ∧ w = wr) ∨ (0 < k ∧ wr.ownsRow w.heap.size 5 1 v (q + k) ((l ++ le k x).map (Value.int .u8)))) ∧ Hid (Below w.heap.size w wr)) (fun _ _ i _ => n - (intOf i).toNat)
  case atStart => exact ⟨0, x, by omega, hx, rfl, rfl, Lib.hid (by simp), Lib.hid (.inl ⟨rfl, rfl, rfl⟩), Lib.hid (Below.refl _ _)⟩
  case round =>
    obtain ⟨k, m, hk, hm, rfl, rfl, hv, hO, hbel⟩ := hrel
    by_cases hlt : k < n
    · have hm0 := hm.1
      have HNext : Hid (∀ (v' : Value) (w1 : World), w1.ownsRow w.heap.size 5 1 v' (q + k + 1) ((l ++ le k x).map (Value.int .u8) ++ [Value.int .u8 (m % 256)]) → w1.ownsRow w.heap.size 5 1 v' (q + (k + 1)) ((l ++ le (k + 1) x).map (Value.int .u8))) := Lib.hid (fun v' w1 h => by
        have e : (l ++ le (k + 1) x).map (Value.int .u8) = (l ++ le k x).map (Value.int .u8) ++ [Value.int .u8 (m % 256)] := by
          rw [le_take x k m hv.out, ← List.append_assoc, List.map_append]; rfl
        rw [e, ← Nat.add_assoc]
        exact h)
      have HD := Lib.hid (div_next x k m hv.out)
      rcases hO.out with ⟨rfl, rfl, rfl⟩ | ⟨hk0, hown⟩
      · clear hO hv hbel
        go_wp2_with (at_builtin; refine wpList_append_grows _ rfl _ _ 23 rfl 5 i0 (.int .u8 0) 1 1 Tryz.underlying23 hi hz0 hz1 hz2 rfl (by decide) (some ⟨b, 0, none⟩) q q (l.map (Value.int .u8)) rfl (fun e => by cases e) (by rw [List.length_map, HL.out, Nat.mul_one]) ?c0 ⟨w.heap.size, 0, none⟩ 1 1 [.int .u8 (m % 256)] rfl rfl (cell_one_new _ _ _) ?c2 (by omega) ?c3 ?c4 ?_)
        case c0 =>
          intro ad he j u hu
          injection he with he
          subst he
          rw [Addr.add_lit, Nat.zero_add]
          rw [List.getElem?_map] at hu
          by_cases hj : j < l.length
          · rcases HR.out.2.2 with h0 | ⟨b', o', e, hc⟩
            · rw [h0] at hj; simp at hj
            · injection e with e; injection e with e1 e2; subst e1 e2
              have := ((Below.refl w.heap.size w).alloc (Nat.le_refl _) (.cells #[.int .u8 (m % 256)] 5)).cell (block_lt_of_cell (hc j hj))
              rw [Nat.zero_add] at this
              rw [this]
              have hc2 := hc j hj
              rw [Nat.zero_add] at hc2
              rw [hc2]
              simpa [List.getD_eq_getElem?_getD, hj] using hu
          · simp [List.getElem?_eq_none (by omega : l.length ≤ j)] at hu
        case c2 => intro u hu; simp at hu; subst hu; rfl
        case c3 => unfold maxLen; omega
        case c4 => omega
        intro v' w1 hown1 hgrow
        have hb0 := (Below.refl w.heap.size w).alloc (Nat.le_refl _) (.cells #[.int .u8 (m % 256)] 5)
        have HB1 : Hid (Below w.heap.size w w1) := Lib.hid (hb0.grown hgrow hb0.size (fun g hg => by cases hg))
        have HO1 : Hid (w1.ownsRow w.heap.size 5 1 v' (q + (0 + 1)) ((l ++ le (0 + 1) x).map (Value.int .u8))) := Lib.hid (HNext.out v' w1 (by
          have h := Joins.ownsRow_le (base' := w.heap.size) hown1 (by simp)
          simpa [le] using h))
        clear hown1 hgrow hb0
        go_wp2
        go_roundw
        case rel => exact ⟨1, m / 256, by omega, hm.div, by go_num, rfl, HD, Lib.hid (.inr ⟨by omega, HO1.out⟩), HB1⟩
        case measure => simp [intOf]; omega
      · have hs := hbel.out.size
        clear hO hv
        go_wp2_with (at_builtin; refine wpList_append_own _ rfl _ _ 23 rfl w.heap.size 5 i0 (.int .u8 0) 1 1 Tryz.underlying23 hi hz0 hz1 hz2 rfl (by decide) _ _ _ rfl (hown.alloc _) ⟨wr.heap.size, 0, none⟩ 1 1 [.int .u8 (m % 256)] rfl rfl ?c1 ?c2 ?c3 ?c4 ?c5 ?_)
        case c1 => exact cell_one_new _ _ _
        case c2 => intro u hu; simp at hu; subst hu; rfl
        case c3 => unfold maxLen; omega
        case c4 => omega
        case c5 => simp; omega
        intro v' w1 hown1 hgrow _
        have HB1 : Hid (Below w.heap.size w w1) := Lib.hid ((hbel.out.alloc hs _).grown hgrow (by simp; omega) (fun g hg => (hown.lt g hg).1))
        have HO1 := Lib.hid (HNext.out v' w1 (by simpa using hown1))
        clear hown1 hgrow hown
        go_wp2
        go_roundw
        case rel => exact ⟨k + 1, m / 256, by omega, hm.div, by go_num, rfl, HD, Lib.hid (.inr ⟨by omega, HO1.out⟩), HB1⟩
        case measure => simp [intOf]; omega
    · have hkn : k = n := by omega
      subst hkn
      have HO1 := Lib.hid (hO.out.resolve_left (fun h => by omega)).2
      clear hO
      go_wp2
      go_ret
      exact ⟨_, rfl, HO1.out, hbel.out⟩

set_option maxRecDepth 100000 in
set_option maxHeartbeats 2000000 in
/-- operations written -/
theorem hwrite_any (a : Option Addr) (n c : Nat) (L : List Ho) (w : World) (h : HR w a L) (hn : L.length = n) (hn2 : n ≤ maxLen) (hz : ∀ o ∈ L, o.path.size ≤ maxLen ∧ o.to.size ≤ maxLen ∧ o.b.length ≤ maxLen) (hsz : (obs L).length ≤ 700000) :
    Calls Tryz.prog 6 #[.slice a n c] w fun e w' => ∃ v, e = .returned (.tuple #[v, .int .i64 (wE L)]) ∧ w'.ownsRow w.heap.size 5 1 v (wB L).length ((wB L).map (Value.int .u8)) ∧ Below w.heap.size w w' := by
  have kc := fun (w : World) (C : Array Value) (n c : Nat) => Lib.run_convert_bytes_const (P := Tryz.prog) w 23 5 C n c Tryz.underlying23 Tryz.underlying5
  unfold maxLen at hn2
  have HH := Lib.hid h
  have HN := Lib.hid hn
  have HZ := Lib.hid hz
  have HS := Lib.hid hsz
  by_cases hbig : 4096 < n
  · have t0 : decide ((4096 : Int) < (n : Int)) = true := decide_eq_true (by omega)
    have HE : Hid (wE L = 2 ∧ wB L = []) := Lib.hid (by
      have : wE L = 2 := by unfold wE; rw [if_pos (by omega)]
      exact ⟨this, by unfold wB; rw [if_neg (by rw [this]; decide)]⟩)
    clear h hn hz hsz hbig
    go_enter Tryz.func6, Tryz.ntmps6
    go_wp2
    go_ret2
    refine ⟨.slice none 0 0, ?_, ?_, Below.refl _ _⟩
    · rw [HE.out.1]; rfl
    · rw [HE.out.2]; exact World.ownsRow_nil ..
  have t0 : decide ((4096 : Int) < (n : Int)) = false := decide_eq_false (by omega)
  have hX : IntKind.u64.wrap (n : Int) = uw n := rfl
  have hx := uw_U64 (n : Int)
  obtain ⟨X, hXe⟩ : ∃ X, uw (n : Int) = X := ⟨_, rfl⟩
  rw [hXe] at hX hx
  have HHd : Hid ([72, 73, 83, 84] ++ le 4 X ++ obs L = body L) := Lib.hid (by unfold body; rw [hn, hXe])
  have hm4 := (Below.refl w.heap.size w).alloc (Nat.le_refl _) (.cells #[.int .u8 72, .int .u8 73, .int .u8 83, .int .u8 84] 5 (4, 5))
  have HM4 := Lib.hid hm4
  have hrw : Rw (w.alloc (.cells #[.int .u8 72, .int .u8 73, .int .u8 83, .int .u8 84] 5 (4, 5))) (some ⟨w.heap.size, 0, none⟩) [72, 73, 83, 84] := by
    refine ⟨by intro x hx; simp at hx; unfold U8; omega, by unfold maxLen; simp, .inr ⟨w.heap.size, 0, rfl, fun i hi => ?_⟩⟩
    rw [Nat.zero_add, Joins.cell_alloc_mark_at w _ _ _ _ i rfl]
    simp at hi
    rcases i with _ | _ | _ | _ | i
    · rfl
    · rfl
    · rfl
    · rfl
    · omega
  have HNum := Lib.hid (hnumber_full w.heap.size 4 [72, 73, 83, 84] X 4 _ hx (by omega) (by omega) (by omega) hrw rfl)
  have n9 : n ≤ 4096 := by omega
  clear h hn hz hsz hbig hx hXe hm4 hrw
  go_enter Tryz.func6, Tryz.ntmps6
  go_wp2_with fail
  refine HNum.out.mono ?_
  rintro e w1 ⟨v1, rfl, ho1, hb1⟩
  have HB1 : Hid (Below w.heap.size w w1) := Lib.hid (HM4.out.trans (hb1.mono HM4.out.size))
  have HO1 : Hid (w1.ownsRow w.heap.size 5 1 v1 8 (([72, 73, 83, 84] ++ le 4 X).map (Value.int .u8))) := Lib.hid (Joins.ownsRow_le ho1 HM4.out.size)
  clear ho1 hb1 HNum HM4
  go_wp2_with fail
  go_loopw [4, 18] (fun v i wr => ∃ k : Nat, k ≤ n ∧ i = .int .i64 k ∧ Hid (∀ j, j < k → Rg L[j]!) ∧ Hid (wr.ownsRow w.heap.size 5 1 v (8 + (obs (L.take k)).length) (([72, 73, 83, 84] ++ le 4 X ++ obs (L.take k)).map (Value.int .u8))) ∧ Hid (Below w.heap.size w wr)) (fun _ i _ => n - (intOf i).toNat)
  case atStart => exact ⟨0, Nat.zero_le _, rfl, Lib.hid (fun j h => absurd h (Nat.not_lt_zero _)), Lib.hid (by simpa [obs] using HO1.out), HB1⟩
  case round =>
    obtain ⟨k, hkn, rfl, hA, hO, hB⟩ := hrel
    by_cases hlt : k < n
    · have kl : (k : Int) < (n : Int) := by omega
      have k0 : (0 : Int) ≤ (k : Int) := by omega
      have hkl : k < L.length := by rw [HN.out]; exact hlt
      obtain ⟨b, off, rfl, h0, h1, h2, h3, h4, h5, A, cc, h6, hc6, hr6⟩ := (HH.out.below hB.out).at hkl
      obtain ⟨b', off', he, -, -, -, -, -, -, A', cc', h6', -, hr6'⟩ := HH.out.at hkl
      injection he with he
      injection he with e1 e2
      subst e1 e2
      have h66 := (hB.out.cell (block_lt_of_cell h6')).trans h6'
      rw [h6] at h66
      injection h66 with h66
      injection h66 with e1 e2 e3
      subst e1 e3
      clear e2 h6'
      have hzk := HZ.out L[k]! (by rw [getElem!_pos L k hkl]; exact List.getElem_mem hkl)
      have HOb := Lib.hid (obs_take hkl)
      have HBd : Hid ((obs (L.take (k + 1))).length ≤ 700000) := Lib.hid (Nat.le_trans (obs_le L (k + 1)) HS.out)
      have HNo : Hid (¬ Rg L[k]! → wE L = 1 ∧ wB L = []) := Lib.hid (fun g => by
        have : wE L = 1 := by
          unfold wE
          rw [if_neg (by have := HN.out; omega), if_neg (fun q => g (q _ (by rw [getElem!_pos L k hkl]; exact List.getElem_mem hkl)))]
        exact ⟨this, by unfold wB; rw [if_neg (by rw [this]; decide)]⟩)
      have HYes : Hid (Rg L[k]! → ∀ j, j < k + 1 → Rg L[j]!) := Lib.hid (fun g j hj => by
        by_cases e : j = k
        · subst e; exact g
        · exact hA.out j (by omega))
      generalize L[k]! = o at h0 h1 h2 h3 h4 h5 h6 hc6 hr6 hr6' hzk HOb HNo HYes
      obtain ⟨m, hm⟩ : ∃ m, o.b.length = m := ⟨_, rfl⟩
      rw [hm] at h6 hc6 hzk
      have HM := Lib.hid hm
      have hal := (Below.refl wr.heap.size wr).alloc (Nat.le_refl _) (.cells #[.int .i64 o.kind, .string o.path, .string o.to, .int .i64 o.handle, .int .i64 o.n, .int .i64 o.off, .slice A m cc] 41)
      have HB2 := Lib.hid (hB.out.trans (hal.mono hB.out.size))
      have HO2 := Lib.hid (own_below hO.out hal)
      have HBk := Lib.hid (Blk.new wr 41 #[.int .i64 o.kind, .string o.path, .string o.to, .int .i64 o.handle, .int .i64 o.n, .int .i64 o.off, .slice A m cc])
      have HR0 := Lib.hid hr6'
      have HRi := Lib.hid (fun W => hright_any o A cc m hm hzk W)
      clear hr6 hr6' hm hal hc6 hzk hkl hA
      go_upto_region 7 with (fail)
      generalize (wr.alloc (.cells #[.int .i64 o.kind, .string o.path, .string o.to, .int .i64 o.handle, .int .i64 o.n, .int .i64 o.off, .slice A m cc] 41)) = w2 at HB2 HO2 HBk ⊢
      obtain ⟨p, hp⟩ : ∃ p, wr.heap.size = p := ⟨_, rfl⟩
      rw [hp] at HBk ⊢
      clear h0 h1 h2 h3 h4 h5 h6 hp hO hB
      have c0 : w2.cell? ⟨p, 0, none⟩ = some (.int .i64 o.kind) := HBk.out.cell 0
      have c1 : w2.cell? ⟨p, 1, none⟩ = some (.string o.path) := HBk.out.cell 1
      have c2 : w2.cell? ⟨p, 2, none⟩ = some (.string o.to) := HBk.out.cell 2
      have c3 : w2.cell? ⟨p, 3, none⟩ = some (.int .i64 o.handle) := HBk.out.cell 3
      have c4 : w2.cell? ⟨p, 4, none⟩ = some (.int .i64 o.n) := HBk.out.cell 4
      have c5 : w2.cell? ⟨p, 5, none⟩ = some (.int .i64 o.off) := HBk.out.cell 5
      have c6 : w2.cell? ⟨p, 6, none⟩ = some (.slice A m cc) := HBk.out.cell 6
      go_wp2_with fail
      refine (HRi.out _).mono ?_
      rintro e w3 ⟨rfl, hb3⟩
      have HB3 := Lib.hid (HB2.out.trans (hb3.mono HB2.out.size))
      have HO3 := Lib.hid (own_below HO2.out hb3)
      have HBk3 := Lib.hid (HBk.out.below hb3 HBk.out.lt)
      clear hb3 HB2 HO2 HBk c0 c1 c2 c3 c4 c5 c6
      by_cases hg : Rg o
      · have td : decide (Rg o) = true := decide_eq_true hg
        have HY := Lib.hid (HYes.out hg)
        rw [td]
        have c0 : w3.cell? ⟨p, 0, none⟩ = some (.int .i64 o.kind) := HBk3.out.cell 0
        have c1 : w3.cell? ⟨p, 1, none⟩ = some (.string o.path) := HBk3.out.cell 1
        have c2 : w3.cell? ⟨p, 2, none⟩ = some (.string o.to) := HBk3.out.cell 2
        have c3 : w3.cell? ⟨p, 3, none⟩ = some (.int .i64 o.handle) := HBk3.out.cell 3
        have c4 : w3.cell? ⟨p, 4, none⟩ = some (.int .i64 o.n) := HBk3.out.cell 4
        have c5 : w3.cell? ⟨p, 5, none⟩ = some (.int .i64 o.off) := HBk3.out.cell 5
        have c6 : w3.cell? ⟨p, 6, none⟩ = some (.slice A m cc) := HBk3.out.cell 6
        have hlen : 8 + (obs (L.take k)).length + (ob o).length ≤ 800000 := by
          have h1 := HBd.out
          rw [HOb.out, List.length_append] at h1
          omega
        have HPt := Lib.hid (hput_any w.heap.size _ _ ([72, 73, 83, 84] ++ le 4 X ++ obs (L.take k)) o A cc m HM.out w3 hlen HO3.out HB3.out.size (Sx.of_old HO3.out HR0.out (Nat.le_refl _) (HR0.out.below HB3.out)))
        clear td hg hlen HNo HYes
        go_wp2_with fail
        refine HPt.out.mono ?_
        rintro e w4 ⟨v4, rfl, ho4, hg4⟩
        have HB4 : Hid (Below w.heap.size w w4) := Lib.hid (HB3.out.trans (hg4.below HO3.out HB3.out.size))
        have HO4 : Hid (w4.ownsRow w.heap.size 5 1 v4 (8 + (obs (L.take (k + 1))).length) (([72, 73, 83, 84] ++ le 4 X ++ obs (L.take (k + 1))).map (Value.int .u8))) := Lib.hid (by
          rw [HOb.out, List.length_append, ← Nat.add_assoc]
          simpa using ho4)
        clear ho4 hg4 c0 c1 c2 c3 c4 c5 c6
        go_wp2
        go_roundw
        case rel => exact ⟨k + 1, by omega, by go_num, HY, HO4, HB4⟩
        case measure => simp [intOf]; omega
      · have td : decide (Rg o) = false := decide_eq_false hg
        have HE := Lib.hid (HNo.out hg)
        rw [td]
        clear td hg HNo HYes
        go_wp2
        go_ret2
        refine ⟨.slice none 0 0, ?_, ?_, HB3.out⟩
        · rw [HE.out.1]; rfl
        · rw [HE.out.2]; exact World.ownsRow_nil ..
    · have kl : ¬ (k : Int) < (n : Int) := by omega
      have hkn2 : k = n := by omega
      have HAll : Hid (∀ o ∈ L, Rg o) := Lib.hid (fun o ho => by
        obtain ⟨j, hj, rfl⟩ := List.getElem_of_mem ho
        have := hA.out j (by have := HN.out; omega)
        rwa [getElem!_pos L j hj] at this)
      have htk : L.take k = L := List.take_of_length_le (by have := HN.out; omega)
      have hO2 := hO.out
      rw [htk, HHd.out, show 8 + (obs L).length = (body L).length from (body_len L).symm] at hO2
      have HO2 := Lib.hid hO2
      have hE : wE L = 0 := by unfold wE; rw [if_neg (by have := HN.out; omega), if_pos HAll.out]
      have HE : Hid (wE L = 0 ∧ wB L = body L ++ le 4 (uw (mo 0 (body L)))) := Lib.hid ⟨hE, by unfold wB; rw [if_pos hE]⟩
      have hbl : (body L).length ≤ 800000 := by rw [body_len]; have := HS.out; omega
      have HBl := Lib.hid hbl
      have hU : ∀ x ∈ body L, U8 x := by
        rw [← HHd.out]
        intro x hx
        have h1 := HH.out
        refine body_U8 (l := L) (fun o ho => ?_) x (by rw [← HHd.out]; exact hx)
        obtain ⟨j, hj, rfl⟩ := List.getElem_of_mem ho
        obtain ⟨_, _, -, -, -, -, -, -, -, _, _, -, -, hr⟩ := h1.at hj
        rw [getElem!_pos L j hj] at hr
        exact hr.1
      obtain ⟨g, cap, rfl, hrw, -, -⟩ := Rw.of_own hO2 hU
      have HSum := Lib.hid (sum_len (cap := cap) hrw rfl)
      have hX2 : IntKind.u64.wrap (mo 0 (body L)) = uw (mo 0 (body L)) := rfl
      have hx2 := uw_U64 (mo 0 (body L))
      obtain ⟨Y, hY⟩ : ∃ Y, uw (mo 0 (body L)) = Y := ⟨_, rfl⟩
      rw [hY] at hX2 hx2 HE
      have HX2 := Lib.hid hx2
      obtain ⟨M, hM⟩ : ∃ M, mo 0 (body L) = M := ⟨_, rfl⟩
      rw [hM] at HSum hX2
      clear hO hO2 hE hbl hU hrw hx2 hY hM htk
      go_wp2_with fail
      refine HSum.out.mono ?_
      rintro e w9 ⟨rfl, rfl⟩
      have HNm := Lib.hid (hnumber_any w.heap.size _ _ _ Y 4 wr HX2.out (by omega) (by have := HBl.out; omega) HO2.out hB.out.size)
      go_wp2_with fail
      refine HNm.out.mono ?_
      rintro e w5 ⟨v5, rfl, ho5, hg5⟩
      have HB5 : Hid (Below w.heap.size w w5) := Lib.hid (hB.out.trans (hg5.below HO2.out hB.out.size))
      have HO5 : Hid (w5.ownsRow w.heap.size 5 1 v5 (wB L).length ((wB L).map (Value.int .u8))) := Lib.hid (by
        rw [HE.out.2, List.length_append, le_length]
        exact ho5)
      clear ho5 hg5
      go_wp2
      go_ret2
      exact ⟨v5, by rw [HE.out.1]; rfl, HO5.out, HB5.out⟩

end Go.Proofs.YthngpmiclbbpnaaGreat
