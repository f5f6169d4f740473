/-
  Entries found, added, removed and turned: the document's answers. Nothing of one statement alone stands here.
-/
import Derived.Test.YtbgimehbencdgaaDirRefS
namespace Go.Proofs.Ytbgimehbencdgaa
open Go.RowKit Crcm Tagm Dirm Go.ChangeShapes

theorem elemE : Try.prog.elem 34 = 23 := by simp [Program.elem, Try.underlying34]
theorem topE (g n cap x : Nat) (X : Int) (hX : X = (x : Int)) (h : x ≤ cap) (W : World) :
    (Instr.slice 34 (.slice (some ⟨g, 0, none⟩) n cap) none (some (.int .i64 X)) none).run Try.prog W = .ok (.slice (some ⟨g, 0, none⟩) x cap) W := by
  subst hX
  have he : Try.prog.underlying 34 = some (.slice (Try.prog.elem 34)) := by rw [elemE, Try.underlying34]
  rw [run_slice_h W _ _ _ _ he .i64 _ (by omega) (by omega), elemE, Try.sizeOf23]
  simp [Result.andThen, sliced, Addr.add]
theorem drop_at {L : List En} {t : Nat} (h : t < L.length) : L.drop t = L[t]! :: L.drop (t + 1) := by
  rw [getElem!_pos L t h, ← List.drop_eq_getElem_cons h]

set_option maxRecDepth 100000 in
set_option maxHeartbeats 1000000 in
theorem rfind_any (L : List En) (s : ByteArray) (A : Option Addr) (n c : Nat) (w : World) (hr : ER w A L) (hl : L.length = n) (hn : n ≤ 100000) :
    Calls Try.prog 35 #[.slice A n c, .string s] w fun e w' => e = .returned (.int .i64 (fdE s L 0)) ∧ w = w' := by
  obtain ⟨r, hrr⟩ : ∃ r, fdE s L 0 = r := ⟨_, rfl⟩
  rw [hrr]
  have H0 : Hid (fdE s (L.drop 0) 0 = r) := Lib.hid (by rw [List.drop_zero]; exact hrr)
  have HR := Lib.hid hr
  have HL := Lib.hid hl
  clear hrr hr hl
  go_enter Try.func35, Try.ntmps35
  go_wp2_with fail
  go_loop [5] (fun i => ∃ t : Nat, t ≤ n ∧ i = .int .i64 t ∧ Hid (fdE s (L.drop t) t = r)) (fun i => n - (intOf i).toNat)
  case atStart => exact ⟨0, Nat.zero_le _, rfl, H0⟩
  case round =>
    obtain ⟨t, htn, rfl, E⟩ := hrel
    by_cases hlt : t < n
    · have hlt' : (t : Int) < (n : Int) := by omega
      have htl : t < L.length := by rw [HL.out]; exact hlt
      obtain ⟨g, rfl, y0, y1⟩ := HR.out.at htl
      have HS : Hid (fdE s (L.drop t) t = if 0 < L[t]!.1 ∧ L[t]!.2 = s then (t : Int) else fdE s (L.drop (t + 1)) (t + 1)) := Lib.hid (by rw [drop_at htl, fdE])
      obtain ⟨x, hx⟩ : ∃ x, L[t]! = x := ⟨_, rfl⟩
      obtain ⟨i, nm⟩ := x
      rw [hx] at HS y0 y1
      have y0 : w.cell? ⟨g, t * 2, none⟩ = some (.int .i64 i) := y0
      have y1 : w.cell? ⟨g, t * 2 + 1, none⟩ = some (.string nm) := y1
      clear hx htl
      by_cases h0 : 0 < i
      · by_cases hq : nm = s
        · have u1 := str_eq hq
          have hr : (t : Int) = r := by have := HS.out; rw [if_pos ⟨h0, hq⟩] at this; rw [← E.out, this]
          have HR2 := Lib.hid hr
          clear HS E hq hr H0
          go_wp2
          go_ret
          exact ⟨by rw [HR2.out]; rfl, rfl⟩
        · have u1 := str_ne hq
          have HN : Hid (fdE s (L.drop (t + 1)) (t + 1) = r) := Lib.hid (by have := HS.out; rw [if_neg (fun h => hq h.2)] at this; rw [← this]; exact E.out)
          clear HS E hq H0
          go_wp2
          go_round
          case rel => exact ⟨t + 1, by omega, by go_num, HN⟩
          case measure => simp [intOf]; omega
      · have HN : Hid (fdE s (L.drop (t + 1)) (t + 1) = r) := Lib.hid (by have := HS.out; rw [if_neg (fun h => h0 h.1)] at this; rw [← this]; exact E.out)
        clear HS E H0
        go_wp2
        go_round
        case rel => exact ⟨t + 1, by omega, by go_num, HN⟩
        case measure => simp [intOf]; omega
    · have htn2 : t = n := by omega
      subst htn2
      have hr : (-1 : Int) = r := by have := E.out; rw [List.drop_of_length_le (by rw [HL.out]; exact Nat.le_refl _), fdE] at this; exact this
      have HR2 := Lib.hid hr
      clear E hr H0
      go_wp2
      go_ret
      exact ⟨by rw [HR2.out]; rfl, rfl⟩

/-! turned -/
def rtE (L : List En) (s : ByteArray) (i : Int) : Int := if fdE s L 0 < 0 then 60 else if Mi i then 0 else 1
def rtL (L : List En) (s : ByteArray) (i : Int) : List En := if rtE L s i = 0 then L.set (fdE s L 0).toNat (i, L[(fdE s L 0).toNat]!.2) else []
theorem fdE_range (s : ByteArray) : ∀ (L : List En) (k : Nat), fdE s L k = -1 ∨ ∃ j, j < L.length ∧ fdE s L k = ((k + j : Nat) : Int)
  | [], k => .inl rfl
  | x :: r, k => by
    rw [fdE]
    split
    · exact .inr ⟨0, by simp, rfl⟩
    · rcases fdE_range s r (k + 1) with h | ⟨j, hj, h⟩
      · exact .inl h
      · exact .inr ⟨j + 1, by simpa using hj, by rw [h]; congr 1; omega⟩
theorem fdE_nat {s : ByteArray} {L : List En} (h : ¬ fdE s L 0 < 0) : ∃ k, k < L.length ∧ fdE s L 0 = (k : Int) := by
  rcases fdE_range s L 0 with g | ⟨j, hj, g⟩
  · rw [g] at h; exact (h (by decide)).elim
  · exact ⟨j, hj, by rw [g, Nat.zero_add]⟩

set_option maxRecDepth 100000 in
set_option maxHeartbeats 2000000 in
theorem rturn_any (L : List En) (s : ByteArray) (i : Int) (A : Option Addr) (n c : Nat) (w : World) (hr : ER w A L) (hl : L.length = n) (hn : n ≤ 20000) :
    Calls Try.prog 21 #[.slice A n c, .string s, .int .i64 i] w fun e w' => (∃ A' c', e = .returned (.tuple #[.slice A' (rtL L s i).length c', .int .i64 (rtE L s i)]) ∧ (rtL L s i).length ≤ c' ∧ c' ≤ 9223372036854775807 ∧ ER w' A' (rtL L s i)) ∧ Below w.heap.size w w' := by
  have HF := Lib.hid (fun W h => rfind_any L s A n c W h hl (by omega))
  by_cases hf : fdE s L 0 < 0
  · have e1 : rtE L s i = 60 := by unfold rtE; rw [if_pos hf]
    have e2 : rtL L s i = [] := by unfold rtL; rw [if_neg (by rw [e1]; decide)]
    rw [e1, e2]
    obtain ⟨p, hp⟩ : ∃ p, fdE s L 0 = p := ⟨_, rfl⟩
    rw [hp] at HF hf
    have HR := Lib.hid hr
    clear hl hp e1 e2 hr
    go_enter Try.func21, Try.ntmps21
    go_wp2_with fail
    refine (HF.out _ HR.out).mono ?_
    rintro e w' ⟨rfl, rfl⟩
    go_wp2
    go_ret2
    exact ⟨⟨none, 0, rfl, Nat.le_refl _, by omega, .inl rfl⟩, Below.refl _ _⟩
  · obtain ⟨k, hk, hfk⟩ := fdE_nat hf
    by_cases hm : Mi i
    · have e1 : rtE L s i = 0 := by unfold rtE; rw [if_neg hf, if_pos hm]
      have e2 : rtL L s i = L.set k (i, L[k]!.2) := by unfold rtL; rw [if_pos e1, hfk]; rfl
      rw [e1, e2]
      have hLs : (L.set k (i, L[k]!.2)).length = n := by rw [List.length_set, hl]
      rw [hLs]
      rw [hfk] at HF
      obtain ⟨m1, m2⟩ := hm
      have HR := Lib.hid hr
      have HL := Lib.hid hl
      have HK := Lib.hid hk
      have kn : (k : Int) < (n : Int) := by omega
      clear hl hr hk hf hfk e1 e2 hLs
      go_enter Try.func21, Try.ntmps21
      go_wp2_with fail
      refine (HF.out _ HR.out).mono ?_
      rintro e w' ⟨rfl, rfl⟩
      go_wp2_with (at_builtin; refine append_ents rfl _ _ rfl w.heap.size _ 0 [] rfl (World.ownsRow_nil _ _ _ _) A n c L rfl HL.out HR.out (by omega) (Nat.le_refl _) ?_)
      intro v' w2 hown hb
      obtain ⟨-, hv | ⟨g, c2, rfl, hg, hc2, hm2, hoe⟩⟩ := own_oe hown
      · have := HK.out; have := HL.out; omega
      have f0 := hoe.frozen (k * 2)
      obtain ⟨y0, y1⟩ := hoe.at HK.out
      have HP := Lib.hid (hoe.put1 k HK.out i)
      have HB := Lib.hid (hb.setCell (p := ⟨g, k * 2, none⟩) hg (.int .i64 i))
      clear hoe hown hb y1
      go_wp2
      go_ret2
      exact ⟨⟨_, _, rfl, hc2, hm2, HP.out.er⟩, HB.out⟩
    · have e1 : rtE L s i = 1 := by unfold rtE; rw [if_neg hf, if_neg hm]
      have e2 : rtL L s i = [] := by unfold rtL; rw [if_neg (by rw [e1]; decide)]
      rw [e1, e2]
      rw [hfk] at HF
      have HR := Lib.hid hr
      have HM := Lib.hid hm
      clear hl hr hk hf hfk e1 e2 hm
      by_cases m1 : i < 1
      · go_enter Try.func21, Try.ntmps21
        go_wp2_with fail
        refine (HF.out _ HR.out).mono ?_
        rintro e w' ⟨rfl, rfl⟩
        go_wp2
        go_ret2
        exact ⟨⟨none, 0, rfl, Nat.le_refl _, by omega, .inl rfl⟩, Below.refl _ _⟩
      · have m2 : 65535 < i := by have := HM.out; unfold Mi at this; omega
        go_enter Try.func21, Try.ntmps21
        go_wp2_with fail
        refine (HF.out _ HR.out).mono ?_
        rintro e w' ⟨rfl, rfl⟩
        go_wp2
        go_ret2
        exact ⟨⟨none, 0, rfl, Nat.le_refl _, by omega, .inl rfl⟩, Below.refl _ _⟩

/-! removed -/
def rrE (L : List En) (s : ByteArray) : Int := if fdE s L 0 < 0 then 60 else 0
def rrL (L : List En) (s : ByteArray) : List En := if rrE L s = 0 then rmR L (fdE s L 0).toNat else []

set_option maxRecDepth 100000 in
set_option maxHeartbeats 2000000 in
theorem rremove_any (L : List En) (s : ByteArray) (A : Option Addr) (n c : Nat) (w : World) (hr : ER w A L) (hl : L.length = n) (hn : n ≤ 20000) :
    Calls Try.prog 20 #[.slice A n c, .string s] w fun e w' => (∃ A' c', e = .returned (.tuple #[.slice A' (rrL L s).length c', .int .i64 (rrE L s)]) ∧ (rrL L s).length ≤ c' ∧ c' ≤ 9223372036854775807 ∧ ER w' A' (rrL L s)) ∧ Below w.heap.size w w' := by
  have HF := Lib.hid (fun W h => rfind_any L s A n c W h hl (by omega))
  by_cases hf : fdE s L 0 < 0
  · have e1 : rrE L s = 60 := by unfold rrE; rw [if_pos hf]
    have e2 : rrL L s = [] := by unfold rrL; rw [if_neg (by rw [e1]; decide)]
    rw [e1, e2]
    obtain ⟨p, hp⟩ : ∃ p, fdE s L 0 = p := ⟨_, rfl⟩
    rw [hp] at HF hf
    have HR := Lib.hid hr
    clear hl hp e1 e2 hr
    go_enter Try.func20, Try.ntmps20
    go_wp2_with fail
    refine (HF.out _ HR.out).mono ?_
    rintro e w' ⟨rfl, rfl⟩
    go_wp2
    go_ret2
    exact ⟨⟨none, 0, rfl, Nat.le_refl _, by omega, .inl rfl⟩, Below.refl _ _⟩
  · obtain ⟨k, hk, hfk⟩ := fdE_nat hf
    have e1 : rrE L s = 0 := by unfold rrE; rw [if_neg hf]
    have e2 : rrL L s = rmR L k := by unfold rrL; rw [if_pos e1, hfk]; rfl
    rw [e1, e2]
    rw [hfk] at HF
    obtain ⟨M, hM⟩ : ∃ M, L.set k (0, ⟨#[]⟩) = M := ⟨_, rfl⟩
    have hMl : M.length = n := by rw [← hM, List.length_set, hl]
    obtain ⟨q, hq⟩ : ∃ q, stE M n = q := ⟨_, rfl⟩
    have hqn : q ≤ n := by rw [← hq]; exact stE_le _ _
    have e3 : rmR L k = M.take q := by unfold rmR; rw [hM, hl, hq]
    rw [e3]
    have hTl : (M.take q).length = q := by rw [List.length_take]; omega
    rw [hTl]
    have HR := Lib.hid hr
    have HL := Lib.hid hl
    have HK := Lib.hid hk
    have HM := Lib.hid hM
    have HMl := Lib.hid hMl
    have HQ := Lib.hid hq
    have HQn := Lib.hid hqn
    have kn : (k : Int) < (n : Int) := by omega
    clear hl hr hk hf hfk e1 e2 e3 hTl hM hMl hq hqn
    go_enter Try.func20, Try.ntmps20
    go_wp2_with fail
    refine (HF.out _ HR.out).mono ?_
    rintro e w' ⟨rfl, rfl⟩
    go_wp2_with (at_builtin; refine append_ents rfl _ _ rfl w.heap.size _ 0 [] rfl (World.ownsRow_nil _ _ _ _) A n c L rfl HL.out HR.out (by omega) (Nat.le_refl _) ?_)
    intro v' w2 hown hb
    obtain ⟨-, hv | ⟨g, c2, rfl, hg, hc2, hm2, hoe⟩⟩ := own_oe hown
    · have := HK.out; have := HL.out; omega
    have f0 := hoe.frozen (k * 2)
    have f1 := hoe.frozen (k * 2 + 1)
    obtain ⟨y0, y1⟩ := hoe.at HK.out
    have hp := hoe.put k HK.out (0, ⟨#[]⟩)
    rw [HM.out] at hp
    have hb3 := (hb.setCell (p := ⟨g, k * 2, none⟩) hg (.int .i64 0)).setCell (p := ⟨g, k * 2 + 1, none⟩) hg (.string ⟨#[]⟩)
    obtain ⟨W3, hW3⟩ : ∃ W3, (w2.setCell ⟨g, k * 2, none⟩ (.int .i64 0)).setCell ⟨g, k * 2 + 1, none⟩ (.string ⟨#[]⟩) = W3 := ⟨_, rfl⟩
    have hp : OE W3 g M := by rw [← hW3]; exact hp
    rw [hW3] at hb3
    have HP := Lib.hid hp
    have HB := Lib.hid hb3
    clear hoe hown hb hp hb3
    go_wp2_with fail
    go_loop [7] (fun v => ∃ j : Nat, j ≤ n ∧ v = .slice (some ⟨g, 0, none⟩) j c2 ∧ Hid (stE M j = q)) (fun v => lenV v)
    case atStart => exact ⟨n, Nat.le_refl _, rfl, HQ⟩
    case round =>
      obtain ⟨j, hj, rfl, E⟩ := hrel
      by_cases h0 : 0 < j
      · obtain ⟨j, rfl⟩ : ∃ x, j = x + 1 := ⟨j - 1, by omega⟩
        obtain ⟨y0, y1⟩ := HP.out.at (j := j) (by rw [HMl.out]; omega)
        have HS : Hid (stE M (j + 1) = if M[j]!.1 = 0 then stE M j else j + 1) := Lib.hid (by rw [stE])
        obtain ⟨x, hx⟩ : ∃ x, M[j]!.1 = x := ⟨_, rfl⟩
        rw [hx] at y0 HS
        have hct := topE g (j + 1) c2 j j rfl (by omega)
        clear hx y1
        by_cases hz : x = 0
        · have E2 : Hid (stE M j = q) := Lib.hid (by have := HS.out; rw [if_pos hz] at this; rw [← this]; exact E.out)
          clear E HS
          subst hz
          go_wp2
          go_round
          case rel => exact ⟨j, by omega, rfl, E2⟩
          case measure => simp [lenV]
        · have hq2 : j + 1 = q := by have := HS.out; rw [if_neg hz] at this; rw [← this]; exact E.out
          have tz : (x == 0) = false := by simpa using hz
          subst hq2
          clear E HS hz
          go_wp2
          go_ret2
          exact ⟨⟨_, _, rfl, by omega, hm2, by have := HP.out.er.take (n := j + 1) (by rw [HMl.out]; omega); exact this⟩, HB.out⟩
      · obtain rfl : j = 0 := by omega
        have hq2 : 0 = q := by have := E.out; rw [stE] at this; exact this
        subst hq2
        clear E
        go_wp2
        go_ret2
        exact ⟨⟨_, _, rfl, hm2, .inl (by first | rfl | exact List.take_zero ..)⟩, HB.out⟩

/-! added -/
def raE (L : List En) (i : Int) (s : ByteArray) : Int := if wE i s = 0 then (if fdE s L 0 < 0 then 0 else 61) else wE i s
def raL (L : List En) (i : Int) (s : ByteArray) : List En := if raE L i s = 0 then adR L (i, s) else []

set_option maxRecDepth 100000 in
set_option maxHeartbeats 2000000 in
theorem radd_any (L : List En) (i : Int) (s : ByteArray) (A : Option Addr) (n c : Nat) (w : World) (hr : ER w A L) (hl : L.length = n) (hn : n ≤ 20000) :
    Calls Try.prog 19 #[.slice A n c, ev i s] w fun e w' => (∃ A' c', e = .returned (.tuple #[.slice A' (raL L i s).length c', .int .i64 (raE L i s)]) ∧ (raL L i s).length ≤ c' ∧ c' ≤ 9223372036854775807 ∧ ER w' A' (raL L i s)) ∧ Below w.heap.size w w' := by
  have HF := Lib.hid (fun W h => rfind_any L s A n c W h hl (by omega))
  have HWr := Lib.hid (fun W => rwrite_all i s W)
  obtain ⟨W0, hW0⟩ : ∃ W0, w.alloc (.cells #[.int .i64 i, .string s] 23) = W0 := ⟨_, rfl⟩
  have b0 : Below w.heap.size w W0 := by rw [← hW0]; exact (Below.refl _ _).alloc (Nat.le_refl _) _
  have k0 : Blk W0 w.heap.size 23 #[.int .i64 i, .string s] := by rw [← hW0]; exact Blk.new _ _ _
  have HR := Lib.hid (hr.below b0)
  have HW0 := Lib.hid hW0
  have HB0 := Lib.hid b0
  have HK0 := Lib.hid k0
  have v0 : W0.cell? ⟨w.heap.size, 0, none⟩ = some (.int .i64 i) := k0.cell 0
  have v1 : W0.cell? ⟨w.heap.size, 1, none⟩ = some (.string s) := k0.cell 1
  clear hW0 hr b0 k0
  unfold ev at HWr ⊢
  obtain ⟨bb, hbb⟩ : ∃ x, wB i s = x := ⟨_, rfl⟩
  rw [hbb] at HWr
  by_cases hw : wE i s = 0
  · rw [hw] at HWr
    by_cases hf : fdE s L 0 < 0
    · have e1 : raE L i s = 0 := by unfold raE; rw [if_pos hw, if_pos hf]
      have e2 : raL L i s = adR L (i, s) := by unfold raL; rw [if_pos e1]
      rw [e1, e2]
      obtain ⟨p, hp⟩ : ∃ p, fdE s L 0 = p := ⟨_, rfl⟩
      rw [hp] at HF hf
      obtain ⟨q, hq⟩ : ∃ q, frE L 0 = q := ⟨_, rfl⟩
      have HQ : Hid (frE (L.drop 0) 0 = q) := Lib.hid (by rw [List.drop_zero]; exact hq)
      have HAd : Hid (adR L (i, s) = if q < n then L.set q (i, s) else L ++ [(i, s)]) := Lib.hid (by unfold adR; rw [hq, hl])
      obtain ⟨R, hRr⟩ : ∃ R, adR L (i, s) = R := ⟨_, rfl⟩
      rw [hRr] at HAd ⊢
      have HL := Lib.hid hl
      clear hl hw hp hq hRr e1 e2 hbb
      go_enter Try.func19, Try.ntmps19
      go_wp2_with fail
      rw [HW0.out]
      refine (HWr.out _).mono ?_
      rintro e w1 ⟨⟨A1, c1, rfl, -⟩, hb1⟩
      have v2 : w1.cell? ⟨w.heap.size, 0, none⟩ = some (.int .i64 i) := (hb1.cell (block_lt_of_cell v0)).trans v0
      have v3 : w1.cell? ⟨w.heap.size, 1, none⟩ = some (.string s) := (hb1.cell (block_lt_of_cell v1)).trans v1
      have HR1 := Lib.hid (HR.out.below hb1)
      have HB1 := Lib.hid (HB0.out.trans (hb1.mono HB0.out.size))
      have HK1 := Lib.hid (HK0.out.below hb1 HK0.out.lt)
      clear v0 v1 hb1
      go_wp2_with fail
      refine (HF.out _ HR1.out).mono ?_
      rintro e w' ⟨rfl, rfl⟩
      go_wp2_with (at_builtin; refine append_ents rfl _ _ rfl w1.heap.size _ 0 [] rfl (World.ownsRow_nil _ _ _ _) A n c L rfl HL.out HR1.out (by omega) (Nat.le_refl _) ?_)
      intro v' w2 hown hb
      have v0 : w2.cell? ⟨w.heap.size, 0, none⟩ = some (.int .i64 i) := (hb.cell (block_lt_of_cell v2)).trans v2
      have v1 : w2.cell? ⟨w.heap.size, 1, none⟩ = some (.string s) := (hb.cell (block_lt_of_cell v3)).trans v3
      have HB2 := Lib.hid (HB1.out.trans (hb.mono HB1.out.size))
      have hsz := hb.size
      obtain ⟨hln, hoe⟩ := own_oe hown
      obtain ⟨-, A2, c2, rfl, hc2, hm2, her, hA2⟩ := own_er hown
      have HO := Lib.hid hown
      have HER := Lib.hid her
      clear v2 v3 hb hown her
      go_wp2_with fail
      go_loop [9] (fun x => ∃ t : Nat, t ≤ n ∧ x = .int .i64 t ∧ Hid (frE (L.drop t) t = q)) (fun x => n - (intOf x).toNat)
      case atStart => exact ⟨0, Nat.zero_le _, rfl, HQ⟩
      case round =>
        obtain ⟨t, htn, rfl, E⟩ := hrel
        by_cases hlt : t < n
        · have hlt' : (t : Int) < (n : Int) := by omega
          have htl : t < L.length := by rw [HL.out]; exact hlt
          rcases hoe with ⟨-, h0⟩ | ⟨g, c3, hsl, hg, hc3, hm3, hoe⟩
          · omega
          injection hsl with s1 s2 s3
          subst s1 s3
          obtain ⟨y0, y1⟩ := hoe.at htl
          have HS : Hid (frE (L.drop t) t = if L[t]!.1 = 0 then t else frE (L.drop (t + 1)) (t + 1)) := Lib.hid (by rw [drop_at htl, frE])
          obtain ⟨x, hx⟩ : ∃ x, L[t]!.1 = x := ⟨_, rfl⟩
          rw [hx] at y0 HS
          obtain ⟨nm, hnm⟩ : ∃ x, L[t]!.2 = x := ⟨_, rfl⟩
          rw [hnm] at y1
          clear hx hnm
          by_cases hz : x = 0
          · have hq2 : t = q := by have := HS.out; rw [if_pos hz] at this; rw [← this]; exact E.out
            subst hq2
            have f0 := hoe.frozen (t * 2)
            have f1 := hoe.frozen (t * 2 + 1)
            have HP := Lib.hid (hoe.put t htl (i, s))
            have HRr : Hid (L.set t (i, s) = R) := Lib.hid (by rw [HAd.out, if_pos hlt])
            have hln2 : R.length = n := by rw [← HRr.out, List.length_set, HL.out]
            have HBf := Lib.hid ((HB2.out.setCell (p := ⟨g, t * 2, none⟩) (Nat.le_trans HB1.out.size hg) (.int .i64 i)).setCell (p := ⟨g, t * 2 + 1, none⟩) (Nat.le_trans HB1.out.size hg) (.string s))
            have HLn := Lib.hid hln2
            clear E HS hoe HQ hln2 htl
            subst hz
            go_wp2
            go_ret2
            refine ⟨⟨_, _, by rw [HLn.out]; rfl, by rw [HLn.out]; exact hc2, hm2, ?_⟩, HBf.out⟩
            rw [← HRr.out]
            exact HP.out.er
          · have HN : Hid (frE (L.drop (t + 1)) (t + 1) = q) := Lib.hid (by have := HS.out; rw [if_neg hz] at this; rw [← this]; exact E.out)
            have tz : (x == 0) = false := by simpa using hz
            clear E HS hz HQ htl
            go_wp2
            go_round
            case rel => exact ⟨t + 1, by omega, by go_num, HN⟩
            case measure => simp [intOf]; omega
        · have htn2 : t = n := by omega
          have hq2 : n = q := by have := E.out; rw [htn2, List.drop_of_length_le (by rw [HL.out]; exact Nat.le_refl _), frE] at this; exact this
          have HRr : Hid (L ++ [(i, s)] = R) := Lib.hid (by rw [HAd.out, if_neg (by omega)])
          have hlt' : ¬ (t : Int) < (n : Int) := by omega
          clear E HQ hoe hq2 htn2
          go_wp2_with (at_builtin; refine append_ents rfl _ _ rfl w1.heap.size _ n L rfl (HO.out.alloc _) (some ⟨w2.heap.size, 0, none⟩) 1 1 [(i, s)] rfl rfl (er_one w2 i s) (by omega) (by simp; omega) ?_)
          intro v' w4 hown4 hb4
          rw [HRr.out] at hown4
          obtain ⟨hl4, A4, c4, rfl, hc4, hm4, her4, -⟩ := own_er hown4
          have HB4 := Lib.hid ((HB2.out.alloc HB2.out.size (.cells #[.int .i64 i, .string s] 23)).trans (hb4.mono HB1.out.size))
          have HE4 := Lib.hid her4
          have HL4 := Lib.hid hl4
          clear hown4 hb4 her4 hl4
          go_wp2
          go_ret2
          exact ⟨⟨_, _, by rw [HL4.out]; rfl, by rw [HL4.out]; exact hc4, hm4, HE4.out⟩, HB4.out⟩
    · have e1 : raE L i s = 61 := by unfold raE; rw [if_pos hw, if_neg hf]
      have e2 : raL L i s = [] := by unfold raL; rw [if_neg (by rw [e1]; decide)]
      rw [e1, e2]
      obtain ⟨p, hp⟩ : ∃ p, fdE s L 0 = p := ⟨_, rfl⟩
      rw [hp] at HF hf
      have hf2 : 0 ≤ p := by omega
      clear hl hw hp e1 e2 hbb hf
      go_enter Try.func19, Try.ntmps19
      go_wp2_with fail
      rw [HW0.out]
      refine (HWr.out _).mono ?_
      rintro e w1 ⟨⟨A1, c1, rfl, -⟩, hb1⟩
      have v2 : w1.cell? ⟨w.heap.size, 0, none⟩ = some (.int .i64 i) := (hb1.cell (block_lt_of_cell v0)).trans v0
      have v3 : w1.cell? ⟨w.heap.size, 1, none⟩ = some (.string s) := (hb1.cell (block_lt_of_cell v1)).trans v1
      have HR1 := Lib.hid (HR.out.below hb1)
      have HB1 := Lib.hid (HB0.out.trans (hb1.mono HB0.out.size))
      clear v0 v1 hb1
      go_wp2_with fail
      refine (HF.out _ HR1.out).mono ?_
      rintro e w' ⟨rfl, rfl⟩
      go_wp2
      go_ret2
      exact ⟨⟨none, 0, rfl, Nat.le_refl _, by omega, .inl rfl⟩, HB1.out⟩
  · have e1 : raE L i s = wE i s := by unfold raE; rw [if_neg hw]
    have e2 : raL L i s = [] := by unfold raL; rw [if_neg (by rw [e1]; exact hw)]
    rw [e1, e2]
    obtain ⟨y, hy⟩ : ∃ x, wE i s = x := ⟨_, rfl⟩
    rw [hy] at hw HWr ⊢
    have hy2 : (y != 0) = true := by simpa using hw
    clear hl hw hy e1 e2 hbb
    go_enter Try.func19, Try.ntmps19
    go_wp2_with fail
    rw [HW0.out]
    refine (HWr.out _).mono ?_
    rintro e w1 ⟨⟨A1, c1, rfl, -⟩, hb1⟩
    have HB1 := Lib.hid (HB0.out.trans (hb1.mono HB0.out.size))
    clear v0 v1 hb1
    go_wp2
    go_ret2
    exact ⟨⟨none, 0, rfl, Nat.le_refl _, by omega, .inl rfl⟩, HB1.out⟩

end Go.Proofs.Ytbgimehbencdgaa
