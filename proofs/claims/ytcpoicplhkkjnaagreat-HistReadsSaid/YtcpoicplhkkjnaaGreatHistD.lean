/-
  Operations written, as the document tells it; how many there are; the law's rows of them. Nothing of one statement alone stands here.
-/
import Derived.Test.YtcpoicplhkkjnaaGreatHistB
namespace Go.Proofs.YtcpoicplhkkjnaaGreat
open Go.RowKit Crcm Tagm Go.ChangeShapes

/-- an operation of a row that came in, at a later world: its cells, and its bytes at the first -/
theorem HR.both {w W : World} {a : Option Addr} {L : List Ho} (h : HR w a L) (hb : Below w.heap.size w W) {k : Nat} (hk : k < L.length) : ∃ b off A c, a = some ⟨b, off, none⟩ ∧
    (W.cell? ⟨b, off + k * 7, none⟩ = some (.int .i64 L[k]!.kind) ∧ W.cell? ⟨b, off + k * 7 + 1, none⟩ = some (.string L[k]!.path) ∧ W.cell? ⟨b, off + k * 7 + 2, none⟩ = some (.string L[k]!.to) ∧ W.cell? ⟨b, off + k * 7 + 3, none⟩ = some (.int .i64 L[k]!.handle) ∧
      W.cell? ⟨b, off + k * 7 + 4, none⟩ = some (.int .i64 L[k]!.n) ∧ W.cell? ⟨b, off + k * 7 + 5, none⟩ = some (.int .i64 L[k]!.off) ∧ W.cell? ⟨b, off + k * 7 + 6, none⟩ = some (.slice A L[k]!.b.length c)) ∧ L[k]!.b.length ≤ c ∧ Rw w A L[k]!.b := by
  obtain ⟨b, off, rfl, h0, h1, h2, h3, h4, h5, A, c, h6, h7, h8⟩ := h.at hk
  have hc : ∀ {p : Addr} {v : Value}, w.cell? p = some v → W.cell? p = some v := fun {p v} g => (hb.cell (block_lt_of_cell g)).trans g
  exact ⟨b, off, A, c, rfl, ⟨hc h0, hc h1, hc h2, hc h3, hc h4, hc h5, hc h6⟩, h7, h8⟩
theorem HR.bw {w : World} {a : Option Addr} {L : List Ho} (h : HR w a L) : ∀ o ∈ L, Bw o := by
  intro o ho
  obtain ⟨j, hj, rfl⟩ := List.getElem_of_mem ho
  obtain ⟨_, _, -, -, -, -, -, -, -, _, _, -, -, hr⟩ := h.at hj
  rw [getElem!_pos L j hj] at hr
  exact hr.1

set_option maxRecDepth 100000 in
set_option maxHeartbeats 2000000 in
theorem rbody_any (a : Option Addr) (n c : Nat) (L : List Ho) (w : World) (h : HR w a L) (hn : L.length = n) (hn2 : n ≤ 4096) (hsz : (obs L).length ≤ 700000) :
    Calls Tryz.prog 28 #[.slice a n c] w fun e w' => ∃ v, e = .returned v ∧ w'.ownsRow w.heap.size 5 1 v (body L).length ((body L).map (Value.int .u8)) ∧ Below w.heap.size w w' := by
  have HH := Lib.hid h
  have HN := Lib.hid hn
  have HS := Lib.hid hsz
  have hX : IntKind.u64.wrap (n : Int) = uw n := rfl
  have hx := uw_U64 (n : Int)
  obtain ⟨X, hXe⟩ : ∃ X, uw (n : Int) = X := ⟨_, rfl⟩
  rw [hXe] at hX hx
  have HHd : Hid ([72, 73, 83, 84] ++ le 4 X ++ obs L = body L) := Lib.hid (by unfold body; rw [hn, hXe])
  have hal := (Below.refl w.heap.size w).alloc (Nat.le_refl _) (.cells #[.int .u8 72, .int .u8 73, .int .u8 83, .int .u8 84] 5)
  have HO0 : Hid ((w.alloc (.cells #[.int .u8 72, .int .u8 73, .int .u8 83, .int .u8 84] 5)).ownsRow w.heap.size 5 1 (.slice (some ⟨w.heap.size, 0, none⟩) 4 4) 4 (([72, 73, 83, 84] : List Int).map (Value.int .u8))) := Lib.hid (World.ownsRow_lit w #[.int .u8 72, .int .u8 73, .int .u8 83, .int .u8 84] 4 (Nat.le_refl _) (by unfold maxLen; omega) rfl)
  have HA := Lib.hid hal
  have HBg := Lib.hid (fun W => big_any X 4 W hx (by omega))
  clear h hn hsz hx hXe hal
  go_enter Tryz.func28, Tryz.ntmps28
  go_upto_region 2 with (fail)
  generalize (w.alloc (.cells #[.int .u8 72, .int .u8 73, .int .u8 83, .int .u8 84] 5)) = w0 at HO0 HA ⊢
  go_wp2_with fail
  refine (HBg.out _).mono ?_
  rintro e w1 ⟨ab, cb, rfl, hrb, hbb⟩
  have HO1 := Lib.hid (own_below HO0.out hbb)
  have HB1 : Hid (Below w.heap.size w w1) := Lib.hid (HA.out.trans (hbb.mono HA.out.size))
  have HR1 := Lib.hid hrb
  clear hrb hbb HBg HO0 HA
  go_wp2_with (at_builtin; refine happend rfl _ _ rfl w.heap.size _ 4 [72, 73, 83, 84] rfl HO1.out ab 4 cb (le 4 X) rfl (le_length _ _) HR1.out (by omega) HB1.out.size ?_)
  intro v2 w2 ho2 hg2
  have HO2 : Hid (w2.ownsRow w.heap.size 5 1 v2 (8 + (obs (L.take 0)).length) (([72, 73, 83, 84] ++ le 4 X ++ obs (L.take 0)).map (Value.int .u8))) := Lib.hid (by simpa [obs] using ho2)
  have HB2 : Hid (Below w.heap.size w w2) := Lib.hid (HB1.out.trans (hg2.below HO1.out HB1.out.size))
  clear ho2 hg2 HO1 HB1 HR1
  go_wp2_with fail
  go_loopw [3, 4] (fun v i wr => ∃ k : Nat, k ≤ n ∧ i = .int .i64 k ∧ Hid (wr.ownsRow w.heap.size 5 1 v (8 + (obs (L.take k)).length) (([72, 73, 83, 84] ++ le 4 X ++ obs (L.take k)).map (Value.int .u8))) ∧ Hid (Below w.heap.size w wr)) (fun _ i _ => n - (intOf i).toNat)
  case atStart => exact ⟨0, Nat.zero_le _, rfl, HO2, HB2⟩
  case round =>
    obtain ⟨k, hkn, rfl, hO, hB⟩ := hrel
    by_cases hlt : k < n
    · have kl : (k : Int) < (n : Int) := by omega
      have k0 : (0 : Int) ≤ (k : Int) := by omega
      have hkl : k < L.length := by rw [HN.out]; exact hlt
      obtain ⟨b, off, A, cc, rfl, ⟨h0, h1, h2, h3, h4, h5, h6⟩, hc6, hr6⟩ := HH.out.both hB.out hkl
      have HOb := Lib.hid (obs_take hkl)
      have hBd := Nat.le_trans (obs_le L (k + 1)) HS.out
      rw [HOb.out, List.length_append] at hBd
      have hU : Bw L[k]! := HH.out.bw _ (by rw [getElem!_pos L k hkl]; exact List.getElem_mem hkl)
      generalize L[k]! = o at h0 h1 h2 h3 h4 h5 h6 hc6 hr6 HOb hBd hU
      obtain ⟨m, hm⟩ : ∃ m, o.b.length = m := ⟨_, rfl⟩
      rw [hm] at h6
      have HRb := Lib.hid (rbytes_any o A cc m hm wr (by omega) (hr6.below hB.out))
      have HBd := Lib.hid hBd
      have HU := Lib.hid hU
      clear hr6 hm hkl hc6 hBd hU
      go_wp2_with fail
      refine HRb.out.mono ?_
      rintro e w3 ⟨v3, rfl, ho3, hb3⟩
      obtain ⟨A3, c3, rfl, hr3, -, -⟩ := Rw.of_own ho3 (ob_U8 HU.out)
      have HR3 := Lib.hid hr3
      have HO3 := Lib.hid (own_below hO.out hb3)
      have HB3 : Hid (Below w.heap.size w w3) := Lib.hid (hB.out.trans (hb3.mono hB.out.size))
      clear ho3 hb3 hr3 hO hB HRb h0 h1 h2 h3 h4 h5 h6
      go_wp2_with (at_builtin; refine happend rfl _ _ rfl w.heap.size _ (8 + (obs (L.take k)).length) ([72, 73, 83, 84] ++ le 4 X ++ obs (L.take k)) rfl HO3.out A3 (ob o).length c3 (ob o) rfl rfl HR3.out (by have := HBd.out; omega) HB3.out.size ?_)
      intro v4 w4 ho4 hg4
      have HB4 : Hid (Below w.heap.size w w4) := Lib.hid (HB3.out.trans (hg4.below HO3.out HB3.out.size))
      have HO4 : Hid (w4.ownsRow w.heap.size 5 1 v4 (8 + (obs (L.take (k + 1))).length) (([72, 73, 83, 84] ++ le 4 X ++ obs (L.take (k + 1))).map (Value.int .u8))) := Lib.hid (by
        rw [HOb.out, List.length_append, ← Nat.add_assoc]
        simpa using ho4)
      clear ho4 hg4
      go_wp2
      go_roundw
      case rel => exact ⟨k + 1, by omega, by go_num, HO4, HB4⟩
      case measure => simp [intOf]; omega
    · have kl : ¬ (k : Int) < (n : Int) := by omega
      have hkn2 : k = n := by omega
      have htk : L.take k = L := List.take_of_length_le (by have := HN.out; omega)
      have hO2 := hO.out
      rw [htk, HHd.out, show 8 + (obs L).length = (body L).length from (body_len L).symm] at hO2
      have HO5 := Lib.hid hO2
      clear hO2 hO htk
      go_wp2
      go_ret
      exact ⟨_, rfl, HO5.out, hB.out⟩

set_option maxRecDepth 100000 in
set_option maxHeartbeats 2000000 in
theorem rwrite_any (a : Option Addr) (n c : Nat) (L : List Ho) (w : World) (h : HR w a L) (hn : L.length = n) (hn2 : n ≤ maxLen) (hz : ∀ o ∈ L, o.path.size ≤ maxLen ∧ o.to.size ≤ maxLen ∧ o.b.length ≤ maxLen) (hsz : (obs L).length ≤ 700000) :
    Calls Tryz.prog 11 #[.slice a n c] w fun e w' => ∃ v, e = .returned (.tuple #[v, .int .i64 (wE L)]) ∧ w'.ownsRow w.heap.size 5 1 v (wB L).length ((wB L).map (Value.int .u8)) ∧ Below w.heap.size w w' := by
  unfold maxLen at hn2
  have HH := Lib.hid h
  have HN := Lib.hid hn
  have HZ := Lib.hid hz
  have HS := Lib.hid hsz
  by_cases hbig : 4096 < n
  · have t0 : decide ((4096 : Int) < (n : Int)) = true := decide_eq_true (by omega)
    have HE : Hid (wE L = 2 ∧ wB L = []) := Lib.hid (by
      have : wE L = 2 := by unfold wE; rw [if_pos (by omega)]
      exact ⟨this, by unfold wB; rw [if_neg (by rw [this]; decide)]⟩)
    clear h hn hz hsz hbig
    go_enter Tryz.func11, Tryz.ntmps11
    go_wp2
    go_ret2
    refine ⟨.slice none 0 0, ?_, ?_, Below.refl _ _⟩
    · rw [HE.out.1]; rfl
    · rw [HE.out.2]; exact World.ownsRow_nil ..
  have t0 : decide ((4096 : Int) < (n : Int)) = false := decide_eq_false (by omega)
  have n9 : n ≤ 4096 := by omega
  clear h hn hz hsz hbig
  go_enter Tryz.func11, Tryz.ntmps11
  go_wp2_with fail
  go_loopw [4] (fun i wr => ∃ k : Nat, k ≤ n ∧ i = .int .i64 k ∧ Hid (∀ j, j < k → Rg L[j]!) ∧ Hid (Below w.heap.size w wr)) (fun i _ => n - (intOf i).toNat)
  case atStart => exact ⟨0, Nat.zero_le _, rfl, Lib.hid (fun j h => absurd h (Nat.not_lt_zero _)), Lib.hid (Below.refl _ _)⟩
  case round =>
    obtain ⟨k, hkn, rfl, hA, hB⟩ := hrel
    by_cases hlt : k < n
    · have kl : (k : Int) < (n : Int) := by omega
      have k0 : (0 : Int) ≤ (k : Int) := by omega
      have hkl : k < L.length := by rw [HN.out]; exact hlt
      obtain ⟨b, off, A, cc, rfl, ⟨h0, h1, h2, h3, h4, h5, h6⟩, hc6, hr6⟩ := HH.out.both hB.out hkl
      have hzk := HZ.out L[k]! (by rw [getElem!_pos L k hkl]; exact List.getElem_mem hkl)
      have HNo : Hid (¬ Rg L[k]! → wE L = 1 ∧ wB L = []) := Lib.hid (fun g => by
        have : wE L = 1 := by
          unfold wE
          rw [if_neg (by have := HN.out; omega), if_neg (fun q => g (q _ (by rw [getElem!_pos L k hkl]; exact List.getElem_mem hkl)))]
        exact ⟨this, by unfold wB; rw [if_neg (by rw [this]; decide)]⟩)
      have HYes : Hid (Rg L[k]! → ∀ j, j < k + 1 → Rg L[j]!) := Lib.hid (fun g j hj => by
        by_cases e : j = k
        · subst e; exact g
        · exact hA.out j (by omega))
      generalize L[k]! = o at h0 h1 h2 h3 h4 h5 h6 hc6 hr6 hzk HNo HYes
      obtain ⟨m, hm⟩ : ∃ m, o.b.length = m := ⟨_, rfl⟩
      rw [hm] at h6 hzk
      have HRi := Lib.hid (fun W => rright_any o A cc m hm hzk W)
      clear hr6 hm hkl hc6 hzk hA
      go_wp2_with fail
      refine (HRi.out _).mono ?_
      rintro e w3 ⟨rfl, hb3⟩
      have HB3 := Lib.hid (hB.out.trans (hb3.mono hB.out.size))
      clear hb3 h0 h1 h2 h3 h4 h5 h6 hB
      by_cases hg : Rg o
      · have td : decide (Rg o) = true := decide_eq_true hg
        have HY := Lib.hid (HYes.out hg)
        rw [td]
        clear td hg HNo HYes
        go_wp2
        go_roundw
        case rel => exact ⟨k + 1, by omega, by go_num, HY, HB3⟩
        case measure => simp [intOf]; omega
      · have td : decide (Rg o) = false := decide_eq_false hg
        have HE := Lib.hid (HNo.out hg)
        rw [td]
        clear td hg HNo HYes
        go_wp2
        go_ret2
        refine ⟨.slice none 0 0, ?_, ?_, HB3.out⟩
        · rw [HE.out.1]; rfl
        · rw [HE.out.2]; exact World.ownsRow_nil ..
    · have kl : ¬ (k : Int) < (n : Int) := by omega
      have hkn2 : k = n := by omega
      have HAll : Hid (∀ o ∈ L, Rg o) := Lib.hid (fun o ho => by
        obtain ⟨j, hj, rfl⟩ := List.getElem_of_mem ho
        have := hA.out j (by have := HN.out; omega)
        rwa [getElem!_pos L j hj] at this)
      have hE : wE L = 0 := by unfold wE; rw [if_neg (by have := HN.out; omega), if_pos HAll.out]
      have HE : Hid (wE L = 0 ∧ wB L = body L ++ le 4 (uw (mo 0 (body L)))) := Lib.hid ⟨hE, by unfold wB; rw [if_pos hE]⟩
      have hbl : (body L).length ≤ 800000 := by rw [body_len]; have := HS.out; omega
      have HBl := Lib.hid hbl
      have HU : Hid (∀ x ∈ body L, U8 x) := Lib.hid (body_U8 HH.out.bw)
      have HBo := Lib.hid (rbody_any a n c L wr (HH.out.below hB.out) HN.out n9 HS.out)
      clear hE hbl hA
      go_wp2_with fail
      refine HBo.out.mono ?_
      rintro e w4 ⟨v4, rfl, ho4, hb4⟩
      have HB4 := Lib.hid (hB.out.trans (hb4.mono hB.out.size))
      have HO4 := Lib.hid (Joins.ownsRow_le ho4 hB.out.size)
      obtain ⟨g, cap, rfl, hrw, -, -⟩ := Rw.of_own HO4.out HU.out
      have HSum := Lib.hid (refsum_len (cap := cap) hrw rfl)
      have hX2 : IntKind.u64.wrap (mo 0 (body L)) = uw (mo 0 (body L)) := rfl
      have hx2 := uw_U64 (mo 0 (body L))
      obtain ⟨Y, hY⟩ : ∃ Y, uw (mo 0 (body L)) = Y := ⟨_, rfl⟩
      rw [hY] at hX2 hx2 HE
      have HBg := Lib.hid (fun W => big_any Y 4 W hx2 (by omega))
      obtain ⟨M, hM⟩ : ∃ M, mo 0 (body L) = M := ⟨_, rfl⟩
      rw [hM] at HSum hX2
      clear hrw hx2 hY hM ho4 hb4 HBo hB
      go_wp2_with fail
      refine HSum.out.mono ?_
      rintro e w9 ⟨rfl, rfl⟩
      go_wp2_with fail
      refine (HBg.out _).mono ?_
      rintro e w5 ⟨ab, cb, rfl, hrb, hbb⟩
      have HO5 := Lib.hid (own_below HO4.out hbb)
      have HB5 := Lib.hid (HB4.out.trans (hbb.mono HB4.out.size))
      have HR5 := Lib.hid hrb
      clear hrb hbb HBg
      go_wp2_with (at_builtin; refine happend rfl _ _ rfl w.heap.size _ (body L).length (body L) rfl HO5.out ab 4 cb (le 4 Y) rfl (le_length _ _) HR5.out (by have := HBl.out; omega) HB5.out.size ?_)
      intro v6 w6 ho6 hg6
      have HB6 : Hid (Below w.heap.size w w6) := Lib.hid (HB5.out.trans (hg6.below HO5.out HB5.out.size))
      have HO6 : Hid (w6.ownsRow w.heap.size 5 1 v6 (wB L).length ((wB L).map (Value.int .u8))) := Lib.hid (by
        rw [HE.out.2, List.length_append, le_length]
        simpa using ho6)
      clear ho6 hg6
      go_wp2
      go_ret2
      exact ⟨v6, by rw [HE.out.1]; rfl, HO6.out, HB6.out⟩

end Go.Proofs.YtcpoicplhkkjnaaGreat
