/-
  The statement on the gap of erase counts.
-/
import Derived.Test.YtoakgogngcmneaaGcLawE
namespace Gcm
/-- an action that is none of a refusal and no force -/
theorem nxt_step {l : List Bk} {p : Int} {room : Bool} (hR : Rt l p) (h0 : (nxt l p room).1 ≠ 0) (h4 : (nxt l p room).1 ≠ 4) :
    (1 ≤ (nxt l p room).1 ∧ (nxt l p room).1 ≤ 3) ∧ ∃ q : Nat, q < l.length ∧ (nxt l p room).2 = q ∧ l[q]!.st ≠ 4 ∧ l[q]!.wr ≤ least l + 3 := by
  rw [nxt_look hR] at h0 h4 ⊢
  rcases look_cases room l (srs p (least l)) with ⟨e, _⟩ | ⟨i, hi, _, hh, e⟩
  · rw [e] at h0; exact absurd rfl h0
  · rw [e] at h0 h4 ⊢
    have hi6 : i < 6 := hi
    have hb : 0 ≤ best (srs p (least l))[i]!.fit (srs p (least l))[i]!.bt l l.length := by
      unfold hit at hh
      simp only [Bool.and_eq_true, decide_eq_true_eq] at hh
      exact hh.2
    have hf := best_fit _ _ l l.length hb
    have hlt := best_lt (srs p (least l))[i]!.fit (srs p (least l))[i]!.bt l l.length
    have hk : 1 ≤ (srs p (least l))[i]!.kind ∧ (srs p (least l))[i]!.kind ≤ 3 := by
      match i, hi6 with
      | 0, _ => exact ⟨(show (1 : Int) ≤ 1 by decide), (show (1 : Int) ≤ 3 by decide)⟩
      | 1, _ => exact ⟨(show (1 : Int) ≤ 2 by decide), (show (2 : Int) ≤ 3 by decide)⟩
      | 2, _ => exact ⟨(show (1 : Int) ≤ 3 by decide), (show (3 : Int) ≤ 3 by decide)⟩
      | 3, _ => exact ⟨(show (1 : Int) ≤ 2 by decide), (show (2 : Int) ≤ 3 by decide)⟩
      | 4, _ => exact absurd rfl h4
      | 5, _ => exact absurd rfl h4
      | i + 6, h => omega
    refine ⟨hk, (best (srs p (least l))[i]!.fit (srs p (least l))[i]!.bt l l.length).toNat, by omega, by omega, ?_⟩
    generalize l[(best (srs p (least l))[i]!.fit (srs p (least l))[i]!.bt l l.length).toNat]! = b at hf
    match i, hi6 with
    | 0, _ =>
      have : (stale b && may (least l) b) = true := hf
      simp [stale, may] at this
      omega
    | 1, _ =>
      have : (loose p b && may (least l) b) = true := hf
      simp [loose, may] at this
      omega
    | 2, _ =>
      have : (empty b && atLeast (least l) b) = true := hf
      simp [empty, atLeast] at this
      omega
    | 3, _ =>
      have : (full b && atLeast (least l) b) = true := hf
      simp [full, atLeast] at this
      omega
    | 4, _ => exact absurd rfl h4
    | 5, _ => exact absurd rfl h4
    | i + 6, h => omega

/-- the gap behind an action -/
theorem gap_step {l : List Bk} {q : Nat} (hq : q < l.length) (h4 : l[q]!.st ≠ 4) (hw : l[q]!.wr ≤ least l + 3) :
    greatest (fol l q) - least (fol l q) ≤ 4 ∨ greatest (fol l q) - least (fol l q) ≤ greatest l - least l := by
  have hge : least l ≤ l[q]!.wr := least_le l _ (getB_mem l q hq) h4
  have hnew : (⟨0, 0, l[q]!.wr + 1, 0⟩ : Bk) ∈ fol l q := by
    unfold fol
    exact List.mem_iff_getElem.2 ⟨q, by simpa using hq, by simp⟩
  have hlo : least l ≤ least (fol l q) := by
    rcases least_of (fol l q) with ⟨b, hb, hb4, e⟩ | ⟨h, _⟩
    · rw [← e]
      rcases List.mem_or_eq_of_mem_set hb with g | rfl
      · exact least_le l b g hb4
      · show least l ≤ l[q]!.wr + 1
        omega
    · exact absurd (show (0 : Int) = 4 from h _ hnew) (by decide)
  rcases greatest_of (fol l q) with ⟨b, hb, hb4, e⟩ | ⟨h, _⟩
  · rcases List.mem_or_eq_of_mem_set hb with g | rfl
    · right
      have := le_greatest l b g hb4
      omega
    · left
      have e' : l[q]!.wr + 1 = greatest (fol l q) := e
      omega
  · exact absurd (show (0 : Int) = 4 from h _ hnew) (by decide)
end Gcm
namespace Go.Proofs.Ytoakgogngcmneaa
open Go.RowKit Gcm Go.ChangeShapes

/-- what is told of a slice of truths that came in -/
def RowBo (w : World) (a : Option Addr) (len cap : Nat) (f : Nat → Bool) : Prop :=
  (a = none ∧ len = 0 ∧ cap = 0) ∨ ∃ ad, a = some ad ∧ len ≤ cap ∧ cap ≤ maxLen ∧ ∀ i, i < cap → w.cell? (ad.add i) = some (.bool (f i))
theorem RowBo.at {w : World} {a : Option Addr} {len cap : Nat} {f : Nat → Bool} (h : RowBo w a len cap f) (k : Nat) (hk : k < len) :
    ∃ b off, a = some ⟨b, off, none⟩ ∧ w.cell? ⟨b, off + k, none⟩ = some (.bool (f k)) := by
  rcases h with ⟨_, h, _⟩ | ⟨⟨b, off, spot⟩, rfl, hl, _, hc⟩
  · omega
  · have h0 := hc 0 (by omega)
    have hs : spot = none := by simpa [Addr.add] using World.cell?_spot h0
    subst hs
    refine ⟨b, off, rfl, ?_⟩
    have := hc k (by omega)
    rwa [Addr.add_lit] at this
theorem RowBo.same {w : World} {a : Option Addr} {len cap : Nat} {f : Nat → Bool} (h : RowBo w a len cap f) : len ≤ maxLen := by
  rcases h with ⟨_, h, _⟩ | ⟨_, _, h1, h2, _⟩ <;> omega

set_option maxRecDepth 100000 in
set_option maxHeartbeats 1000000 in
theorem gap_any (l : List Bk) (a : Option Addr) (cap n : Nat) (p : Int) (w : World) (hr : Rg w a l) (hl : l.length = n) (hR : Rt l p) :
    Calls Try.prog 48 #[.slice a n cap] w fun e w' => e = .returned (.int .i64 (greatest l - least l)) ∧ Below w.heap.size w w' := by
  have A1 := Lib.hid (greatest_any l a cap n w hr hl)
  have A2 := Lib.hid (fun W (hb : Below w.heap.size w W) => least_any l a cap n W (hr.below hb) hl)
  have HW := Lib.hid (wrap_sub (greatest_bounds l p hR) (least_bounds l p hR))
  generalize greatest l = x at A1 HW ⊢
  generalize least l = y at A2 HW ⊢
  clear hr hl hR
  go_enter Try.func48, Try.ntmps48
  go_wp2_with fail
  refine A1.out.mono ?_
  rintro e w1 ⟨rfl, hb⟩
  have B1 := Lib.hid hb
  clear hb
  go_wp2_with fail
  refine (A2.out _ B1.out).mono ?_
  rintro e w2 ⟨rfl, hb⟩
  have B2 := Lib.hid (B1.out.trans (hb.mono B1.out.size))
  clear hb
  go_wp2
  go_ret
  exact ⟨gint HW.out, B2.out⟩

set_option maxRecDepth 100000 in
set_option maxHeartbeats 2000000 in
theorem gcSpreads_walk (a : Option Addr) (n cap : Nat) (z : List Bk) (p : Int) (a2 : Option Addr) (n2 cap2 : Nat) (f : Nat → Bool) (w : World) (hz : RowG w a n cap z) (_hp : (Lit.int .i64 p).wf = true) (hf : RowBo w a2 n2 cap2 f) :
    Calls Try.prog 11 #[.slice a n cap, .int .i64 p, .slice a2 n2 cap2] w fun e w' => e = .returned (.bool true) ∧ Below w.heap.size w w' := by
  obtain ⟨l, hl, -, hr⟩ := hz.rg
  have HLo := Lib.hid (fun w => long_any n a cap w)
  have HRi := Lib.hid (right_any l a cap n p w hr hl)
  have HF := Lib.hid hf
  clear hz _hp hf
  by_cases hlong : 150 < n
  · have t0 : decide (150 < n) = true := decide_eq_true hlong
    rw [t0] at HLo
    clear hlong t0 hr hl
    go_enter Try.func11, Try.ntmps11
    go_wp2_with fail
    refine (HLo.out _).mono ?_
    rintro e w' ⟨rfl, rfl⟩
    go_wp2_with fail
    refine (known_any _).mono ?_
    rintro e w' ⟨rfl, hb⟩
    go_wp2
    go_ret
    exact ⟨rfl, hb⟩
  have t0 : decide (150 < n) = false := decide_eq_false hlong
  rw [t0] at HLo
  have n1 : n ≤ 150 := by omega
  clear hlong t0
  by_cases hmany : 200 < n2
  · have t1 : decide ((200 : Int) < (n2 : Int)) = true := decide_eq_true (by omega)
    clear hr hl hmany HRi
    go_enter Try.func11, Try.ntmps11
    go_wp2_with fail
    refine (HLo.out _).mono ?_
    rintro e w' ⟨rfl, rfl⟩
    go_wp2_with fail
    refine (known_any _).mono ?_
    rintro e w' ⟨rfl, hb⟩
    go_wp2
    go_ret
    exact ⟨rfl, hb⟩
  have t1 : decide ((200 : Int) < (n2 : Int)) = false := decide_eq_false (by omega)
  have n21 : n2 ≤ 200 := by omega
  clear hmany
  by_cases hRt : Rt l p
  · rw [decide_eq_true hRt] at HRi
    have HRt := Lib.hid hRt
    have HR := Lib.hid hr
    have HL := Lib.hid hl
    clear hRt hr hl
    go_enter Try.func11, Try.ntmps11
    go_wp2_with fail
    refine (HLo.out _).mono ?_
    rintro e w' ⟨rfl, rfl⟩
    go_wp2_with fail
    refine HRi.out.mono ?_
    rintro e w1 ⟨rfl, hb1⟩
    have B1 := Lib.hid hb1
    clear hb1 HRi HLo
    go_wp2_with fail
    go_loopw [0, 7] (fun s0 i wr => ∃ (k : Nat) (l' : List Bk) (a' : Option Addr) (c' : Nat), k ≤ n2 ∧ i = .int .i64 k ∧ s0 = .slice a' n c' ∧ Hid (Rg wr a' l') ∧ Hid (l'.length = n) ∧ Hid (Rt l' p) ∧ Hid (Below w.heap.size w wr)) (fun _ i _ => n2 - (intOf i).toNat)
    case atStart => exact ⟨0, l, a, cap, by omega, rfl, rfl, Lib.hid (HR.out.below B1.out), HL, HRt, B1⟩
    case round =>
      obtain ⟨k, m0, a', c', hk, rfl, rfl, R0, L0, T0, B0⟩ := hrel
      by_cases hlt : k < n2
      · obtain ⟨b2, o2, rfl, hcb⟩ := HF.out.at k hlt
        have hcell := (B0.out.cell (block_lt_of_cell hcb)).trans hcb
        have HNx := Lib.hid (next_any m0 a' c' n p (f k) wr R0.out L0.out)
        have HStep := Lib.hid (fun h0 h4 => nxt_step (room := f k) T0.out h0 h4)
        generalize nxt m0 p (f k) = x at HNx HStep
        obtain ⟨kd, bk⟩ := x
        unfold av at HNx
        dsimp only at HNx HStep
        generalize f k = rm at hcell HNx
        clear hcb
        go_wp2_with fail
        refine HNx.out.mono ?_
        rintro e w2 ⟨rfl, hb2⟩
        have B2 := Lib.hid (B0.out.trans (hb2.mono B0.out.size))
        have R2 := Lib.hid (R0.out.below hb2)
        have hbx : Below w2.heap.size w2 (w2.alloc (.cells #[.int .i64 kd, .int .i64 bk] 49)) := (Below.refl _ _).alloc (Nat.le_refl _) _
        have B3 := Lib.hid (B2.out.trans (hbx.mono B2.out.size))
        have R3 := Lib.hid (R2.out.below hbx)
        clear hb2 hbx HNx hcell
        by_cases k0 : kd = 0
        · subst k0
          clear HStep
          go_wp2_with fail
          refine (known_any _).mono ?_
          rintro e w' ⟨rfl, hb⟩
          go_wp2
          go_ret
          exact ⟨rfl, B3.out.trans (hb.mono B3.out.size)⟩
        by_cases k4 : kd = 4
        · subst k4
          clear HStep
          go_wp2_with fail
          refine (known_any _).mono ?_
          rintro e w' ⟨rfl, hb⟩
          go_wp2
          go_ret
          exact ⟨rfl, B3.out.trans (hb.mono B3.out.size)⟩
        obtain ⟨⟨k1, k3⟩, q, hq, rfl, hst, hwr⟩ := HStep.out k0 k4
        have d0 : (kd == 0) = false := by simp [k0]
        have d4 : (kd == 4) = false := by simp [k4]
        have HOk := Lib.hid (show Ok m0 p kd q from ⟨T0.out, ⟨k1, by omega⟩, ⟨by omega, by omega⟩, by rw [Int.toNat_natCast]; exact hst⟩)
        have HGap := Lib.hid (gap_step hq hst hwr)
        have HBw := Lib.hid (fol_Bw T0.out q hq R0.out.1)
        have HFl := Lib.hid (show (fol m0 q).length = n by rw [fol_length, L0.out])
        have HFo := Lib.hid (follow_yes m0 a' c' n p kd q _ R3.out L0.out (by omega) HOk.out)
        clear HStep k0 k4 k1 k3 hst hwr
        go_wp2_with fail
        refine HFo.out.mono ?_
        rintro e w4 ⟨g, c, rfl, hg, hcap, hO, hb⟩
        have B4 := Lib.hid (B3.out.trans (hb.mono B3.out.size))
        have R4 := Lib.hid (R3.out.below hb)
        have O4 := Lib.hid hO
        have hmx : (fol m0 q).length ≤ maxLen := by rw [HFl.out]; unfold maxLen; omega
        have M4 := Lib.hid (hO.rg HBw.out hmx)
        have HRm := Lib.hid (right_any (fol m0 q) _ c n p w4 M4.out HFl.out)
        clear hb hO hmx HFo
        by_cases hRm : Rt (fol m0 q) p
        · rw [decide_eq_true hRm] at HRm
          have HG1 := Lib.hid (fun W (hb : Below w4.heap.size w4 W) => gap_any (fol m0 q) _ c n p W (M4.out.below hb) HFl.out hRm)
          have HG2 := Lib.hid (fun W (hb : Below w4.heap.size w4 W) => gap_any m0 a' c' n p W (R4.out.below hb) L0.out T0.out)
          have HTm := Lib.hid hRm
          clear hRm
          go_wp2_with fail
          refine HRm.out.mono ?_
          rintro e w5 ⟨rfl, hb5⟩
          have K5 := Lib.hid hb5
          clear hb5 HRm
          go_wp2_with fail
          refine (HG1.out _ K5.out).mono ?_
          rintro e w6 ⟨rfl, hb6⟩
          have K6 := Lib.hid (K5.out.trans (hb6.mono K5.out.size))
          clear hb6
          generalize greatest (fol m0 q) - least (fol m0 q) = x at HG1 HGap
          by_cases hx : 4 < x
          · have tx : decide (4 < x) = true := decide_eq_true hx
            generalize greatest m0 - least m0 = y at HG2 HGap
            have ty : decide (y < x) = false := decide_eq_false (by have := HGap.out; omega)
            clear hx
            go_wp2_with fail
            refine (HG1.out _ K6.out).mono ?_
            rintro e w7 ⟨rfl, hb7⟩
            have K7 := Lib.hid (K6.out.trans (hb7.mono K6.out.size))
            clear hb7
            go_wp2_with fail
            refine (HG2.out _ K7.out).mono ?_
            rintro e w8 ⟨rfl, hb8⟩
            have K8 := Lib.hid (K7.out.trans (hb8.mono K7.out.size))
            clear hb8
            go_wp2
            go_roundw
            case rel => exact ⟨k + 1, fol m0 q, _, c, by omega, by go_num, rfl, Lib.hid (M4.out.below K8.out), HFl, HTm, Lib.hid (B4.out.trans (K8.out.mono B4.out.size))⟩
            case measure => simp [intOf]; omega
          · have tx : decide (4 < x) = false := decide_eq_false hx
            clear hx
            go_wp2
            go_roundw
            case rel => exact ⟨k + 1, fol m0 q, _, c, by omega, by go_num, rfl, Lib.hid (M4.out.below K6.out), HFl, HTm, Lib.hid (B4.out.trans (K6.out.mono B4.out.size))⟩
            case measure => simp [intOf]; omega
        · rw [decide_eq_false hRm] at HRm
          clear hRm
          go_wp2_with fail
          refine HRm.out.mono ?_
          rintro e w5 ⟨rfl, hb5⟩
          have B5 := Lib.hid (B4.out.trans (hb5.mono B4.out.size))
          clear hb5
          go_wp2_with fail
          refine (known_any _).mono ?_
          rintro e w' ⟨rfl, hb⟩
          go_wp2
          go_ret
          exact ⟨rfl, B5.out.trans (hb.mono B5.out.size)⟩
      · have : k = n2 := by omega
        subst this
        go_wp2_with fail
        refine (known_any _).mono ?_
        rintro e w' ⟨rfl, hb⟩
        go_wp2
        go_ret
        exact ⟨rfl, B0.out.trans (hb.mono B0.out.size)⟩
  · rw [decide_eq_false hRt] at HRi
    clear hRt hr hl
    go_enter Try.func11, Try.ntmps11
    go_wp2_with fail
    refine (HLo.out _).mono ?_
    rintro e w' ⟨rfl, rfl⟩
    go_wp2_with fail
    refine HRi.out.mono ?_
    rintro e w1 ⟨rfl, hb1⟩
    go_wp2_with fail
    refine (known_any _).mono ?_
    rintro e w' ⟨rfl, hb⟩
    go_wp2
    go_ret
    exact ⟨rfl, hb1.trans (hb.mono hb1.size)⟩
end Go.Proofs.Ytoakgogngcmneaa
