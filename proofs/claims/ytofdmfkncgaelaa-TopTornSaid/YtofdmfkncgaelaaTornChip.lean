/-
  A small chip on which pages of one block are programmed one behind the other, until the power goes. Nothing of one statement alone stands here.
-/
import Derived.Test.YtofdmfkncgaelaaTornBase

namespace Go.Proofs.Ytofdmfkncgaelaa
open Go.RowKit Crcm Tagm Go.ChangeShapes

/-- the chip: pages of its block 2, power, strokes, reads -/
def cF (A : Int) (dl : List Int) (Q : Nat → Option (List Int)) (u : Bool) (s r : Int) : Ch :=
  { newC 16 8 64 [] with fl := [⟨A, 2, dl⟩], since := s, strokes := s, up := u, reads := r, pg := fun k p => if k = 2 then Q p else none }
/-- so many pages -/
def Qs (P : Nat → List Int) (i p : Nat) : Option (List Int) := if p < i then some (P p) else none
/-- so many, and one that was torn -/
def Qt (P : Nat → List Int) (i : Nat) (x : List Int) (p : Nat) : Option (List Int) := if p < i then some (P p) else if p = i then some x else none
theorem cF_zero (A : Int) (dl : List Int) (P : Nat → List Int) : ({ newC 16 8 64 [] with fl := [⟨A, 2, dl⟩], since := 0 } : Ch) = cF A dl (Qs P 0) true 0 0 := by
  have e : (fun (_ : Nat) (_ : Nat) => (none : Option (List Int))) = fun k p => if k = 2 then Qs P 0 p else none := by
    funext k p
    unfold Qs
    rw [if_neg (Nat.not_lt_zero p)]
    split <;> rfl
  unfold cF newC
  dsimp only
  rw [← e]
theorem nx_Qs (P : Nat → List Int) (i : Nat) : ∀ n, nx (Qs P i) n = min i n
  | 0 => by rw [nx, Nat.min_zero]
  | n + 1 => by
    rw [nx]
    unfold Qs
    by_cases h : n < i
    · rw [if_pos h, Option.isSome_some, if_pos rfl]; omega
    · rw [if_neg h, Option.isSome_none, if_neg (by decide)]
      have := nx_Qs P i n
      unfold Qs at this
      rw [this]; omega
theorem cF_pr {A : Int} {dl : List Int} {P : Nat → List Int} {i : Nat} {s r : Int} (hi : i < 8) : prE (cF A dl (Qs P i) true s r) 2 i (64 + 32) = 0 := by
  have h1 : rpE (cF A dl (Qs P i) true s r) 2 i = 0 := by
    unfold rpE reE cF newC
    simp
    omega
  have h2 : nx ((cF A dl (Qs P i) true s r).pg (2 : Int).toNat) 8 = i := by
    show nx (fun p => if (2 : Nat) = 2 then Qs P i p else none) 8 = i
    simp only [if_true]
    rw [nx_Qs]
    omega
  unfold prE
  rw [if_pos h1, if_pos (show 64 + 32 = (cF A dl (Qs P i) true s r).sz + 32 from rfl), if_neg (by show ¬ badf [] 2 = true; decide), if_neg]
  rintro (h | h)
  · cases h
  · exact h (by rw [show (cF A dl (Qs P i) true s r).np = 8 from rfl, h2]; rfl)
theorem cF_rd {A : Int} {dl : List Int} {Q : Nat → Option (List Int)} {i : Nat} {s r : Int} (hi : i < 8) : rpE (cF A dl Q true s r) 2 i = 0 := by
  unfold rpE reE cF newC
  simp
  omega
theorem fnd_one (A n : Int) (dl : List Int) : fnd [⟨A, 2, dl⟩] n = if A = n then ⟨A, 2, dl⟩ else ⟨0, 0, []⟩ := by
  unfold fnd
  by_cases h : A = n
  · rw [if_pos h]
    have : (A == n) = true := beq_iff_eq.2 h
    simp [List.find?, this]
  · rw [if_neg h]
    have : (A == n) = false := beq_eq_false_iff_ne.2 h
    simp [List.find?, this]
theorem cF_next {A : Int} {dl : List Int} {P : Nat → List Int} {i : Nat} {r : Int} (hi : i < 8) (hA : A ≠ i) : prC (cF A dl (Qs P i) true i r) 2 i (P i) = cF A dl (Qs P (i + 1)) true ((i + 1 : Nat) : Int) r := by
  have hf : fnd (cF A dl (Qs P i) true i r).fl (cF A dl (Qs P i) true i r).since = ⟨0, 0, []⟩ := by
    show fnd [⟨A, 2, dl⟩] (i : Int) = _
    rw [fnd_one, if_neg hA]
  have hw : wrap64 ((i : Int) + 1) = ((i + 1 : Nat) : Int) := by rw [IntWalk.wrap64_in _ ⟨by omega, by omega⟩]; omega
  unfold prC
  rw [hf]
  show endC 0 { stC (cF A dl (Qs P i) true i r) with pg := up2 (cF A dl (Qs P i) true i r).pg 2 i (some (P i)) } = _
  unfold endC
  rw [if_neg (by decide)]
  unfold stC cF
  simp only [hw]
  congr 1
  funext k p
  by_cases hk : k = 2
  · subst hk
    unfold up2
    rw [up1_at, if_pos rfl]
    by_cases hp : p = i
    · subst hp
      rw [up1_at]
      unfold Qs
      rw [if_pos (by omega)]
    · rw [up1_ne _ _ hp]
      simp only [if_true]
      unfold Qs
      by_cases g : p < i
      · rw [if_pos g, if_pos (by omega)]
      · rw [if_neg g, if_neg (by omega)]
  · unfold up2
    rw [up1_ne _ _ hk, if_neg hk, if_neg hk]
theorem cF_next_e {A : Int} {dl : List Int} {P : Nat → List Int} {i : Nat} {r : Int} (hA : A ≠ i) : endE (fnd (cF A dl (Qs P i) true i r).fl (cF A dl (Qs P i) true i r).since).kind = 0 := by
  have hf : fnd (cF A dl (Qs P i) true i r).fl (cF A dl (Qs P i) true i r).since = ⟨0, 0, []⟩ := by
    show fnd [⟨A, 2, dl⟩] (i : Int) = _
    rw [fnd_one, if_neg hA]
  rw [hf]; rfl
theorem cF_torn_e {dl : List Int} {P : Nat → List Int} {i : Nat} {r : Int} : endE (fnd (cF i dl (Qs P i) true i r).fl (cF i dl (Qs P i) true i r).since).kind = 4 := by
  have hf : fnd (cF i dl (Qs P i) true i r).fl (cF i dl (Qs P i) true i r).since = ⟨i, 2, dl⟩ := by
    show fnd [⟨(i : Int), 2, dl⟩] (i : Int) = _
    rw [fnd_one, if_pos rfl]
  rw [hf]; rfl
theorem cF_torn {dl : List Int} {P : Nat → List Int} {i : Nat} {r : Int} {l : List Int} (hi : i < 8) : prC (cF i dl (Qs P i) true i r) 2 i l = cF i dl (Qt P i (tornL 96 dl)) false ((i + 1 : Nat) : Int) r := by
  have hf : fnd (cF i dl (Qs P i) true i r).fl (cF i dl (Qs P i) true i r).since = ⟨i, 2, dl⟩ := by
    show fnd [⟨(i : Int), 2, dl⟩] (i : Int) = _
    rw [fnd_one, if_pos rfl]
  have hw : wrap64 ((i : Int) + 1) = ((i + 1 : Nat) : Int) := by rw [IntWalk.wrap64_in _ ⟨by omega, by omega⟩]; omega
  unfold prC
  rw [hf]
  show endC 2 { stC (cF i dl (Qs P i) true i r) with pg := up2 (cF i dl (Qs P i) true i r).pg 2 i (some (tornL 96 dl)) } = _
  unfold endC
  rw [if_pos (by decide)]
  unfold stC cF
  simp only [hw]
  congr 1
  funext k p
  by_cases hk : k = 2
  · subst hk
    unfold up2
    rw [up1_at, if_pos rfl]
    by_cases hp : p = i
    · subst hp
      rw [up1_at]
      unfold Qt
      rw [if_neg (Nat.lt_irrefl _), if_pos rfl]
    · rw [up1_ne _ _ hp]
      simp only [if_true]
      unfold Qs Qt
      by_cases g : p < i
      · rw [if_pos g, if_pos g]
      · rw [if_neg g, if_neg g, if_neg hp]
  · unfold up2
    rw [up1_ne _ _ hk, if_neg hk, if_neg hk]
theorem rdF_pg {k p s e : Int} (z : List Int) (h : Rt k p s e) (hs : Sz z.length) : rdF (pg k p s e z) = 0 := by
  obtain ⟨_, _, _, _, hv⟩ := Vl_pg z h
  unfold rdF
  rw [pg_length, if_pos (by simpa using hs), if_neg (pg_not_Er _ _ _ _ _), show z.length + 32 - 32 = z.length by omega, if_pos hv]
theorem rdF_er : rdF (List.replicate 96 255) = 20 := by
  have h : Er (List.replicate 96 255) := fun b hb => (List.mem_replicate.1 hb).2
  unfold rdF
  rw [if_pos (by decide), if_pos h]
/-- what is written lies in new memory -/
theorem write_new (k p s e : Int) (a : Option Addr) (cap m : Nat) (z : List Int) (w : World) (h : Rt k p s e) (hs : Sz m) (hz : Rw w a z) (hm : z.length = m) :
    Calls Try.prog 27 #[tg k p s e, .slice a m cap] w fun r w' => (∃ A c, r = .returned (.tuple #[.slice A (m + 32) c, .int .i64 0]) ∧ m + 32 ≤ c ∧ Rw w' A (pg k p s e z) ∧ ∀ b off s, A = some ⟨b, off, s⟩ → w.heap.size ≤ b) ∧ Below w.heap.size w w' := by
  subst hm
  refine (write_ok k p s e a cap z w h hs hz).mono ?_
  rintro r w' ⟨v, rfl, hown, hb⟩
  obtain ⟨A, c, rfl, hr, hl, hc⟩ := Rw.of_own hown (pg_U8 _ _ _ _ _ hz.1)
  refine ⟨⟨A, c, rfl, hc, hr, fun b off s e => ?_⟩, hb⟩
  rcases hown.2 with ⟨h0, _⟩ | ⟨g, cap, cur, h0, hg, _⟩
  · injection h0 with e1; rw [e1] at e; cases e
  · injection h0 with e1
    rw [e1] at e
    injection e with e
    injection e with e
    omega
theorem gd16 : Gd 16 8 64 := ⟨by omega, by omega, by omega, by omega, .inl rfl⟩
theorem rt1 : Rt 1 1 1 1 := by decide

set_option maxRecDepth 100000 in
set_option maxHeartbeats 2000000 in
theorem awake_any (w : World) : Calls Try.prog 32 #[] w fun e w' => e = .returned (.bool true) ∧ Below w.heap.size w w' := by
  have HSm := Lib.hid (fun w => small_any w)
  have HNew := Lib.hid (fun w => new_any 16 8 64 w gd16 [] none 0 0 Ri.nil rfl)
  unfold geoV at HNew
  have hmk := mkn 64 (by omega)
  have hmk64 : ∀ W : World, (Instr.makeSlice 32 (.int .i64 64) (.int .i64 64)).run Try.prog W = .ok (.slice (some ⟨W.heap.size, 0, none⟩) 64 64) (W.alloc (.cells (Array.replicate 64 (Value.int .u8 0)) 5)) := fun W => hmk W
  have HWr := Lib.hid (fun W a (hz : Rw W a (zz 64)) => write_new 1 1 1 1 a 64 64 (zz 64) W rt1 (by decide) hz (zz_len 64))
  unfold tg at HWr
  clear hmk
  go_enter Try.func32, Try.ntmps32
  go_wp2_with fail
  refine (HSm.out _).mono ?_
  rintro e w0 ⟨rfl, hb0⟩
  go_wp2_with fail
  refine (HNew.out _).mono ?_
  rintro r w1 ⟨hB, ⟨-, o, rfl, hC, hF⟩ | ⟨⟨x, hx, -⟩, -⟩⟩
  · have HB1 := Lib.hid (hb0.trans (hB.mono hb0.size))
    have hal := (Below.refl w1.heap.size w1).alloc (Nat.le_refl _) (.cells (Array.replicate 64 (Value.int .u8 0)) 5)
    have hrz : Rw (w1.alloc (.cells (Array.replicate 64 (Value.int .u8 0)) 5)) (some ⟨w1.heap.size, 0, none⟩) (zz 64) := by
      obtain ⟨a, c, e, h, -⟩ := Rw.of_own (zs := zz 64) (own_mkn 64 (by omega) w1) (zz_U8 64)
      injection e with e1
      rw [e1]; exact h
    have HRZ := Lib.hid hrz
    have HC := Lib.hid (hC.below hal)
    have HF := Lib.hid (fun b hb => Nat.le_trans hb0.size (hF b hb))
    have HB2 := Lib.hid (HB1.out.alloc HB1.out.size (.cells (Array.replicate 64 (Value.int .u8 0)) 5))
    clear hb0 hB hC hF hal hrz HSm HNew
    go_wp2_with fail
    refine (HWr.out _ _ HRZ.out).mono ?_
    rintro r w3 ⟨⟨A, c, rfl, hnc, hr, hA⟩, hb3⟩
    have C3 := Lib.hid (HC.out.below hb3)
    have B3 := Lib.hid (HB2.out.trans (hb3.mono HB2.out.size))
    have hrx : RwX w3 (o.F 16) A (pg 1 1 1 1 (zz 64)) := ⟨hr, fun b off s e _ g => by
      have h1 := HC.out.old b g
      have h2 := hA b off s e
      omega⟩
    have P2 : Hid (Calls Try.prog 17 #[o.p, .int .i64 0, .int .i64 0, .slice A 96 c] w3 fun e w' => e = .returned (.int .i64 0) ∧ ChAt w' (o.F 16) o (prC (newC 16 8 64 []) 0 0 (pg 1 1 1 1 (zz 64))) ∧ Kp (o.F 16) w3 w') := Lib.hid (program_yes C3.out 0 0 A c (pg 1 1 1 1 (zz 64)) hrx (pg_length _ _ _ _ _) rfl)
    clear hrx hr hA hb3 HWr
    go_wp2_with fail
    refine P2.out.mono ?_
    rintro r w4 ⟨rfl, hc4, hk4⟩
    have B4 := Lib.hid (B3.out.trans (hk4.below (fun b hb => HF.out b hb) B3.out.size))
    clear hc4 hk4
    go_wp2
    go_ret
    exact ⟨rfl, B4.out⟩
  · cases hx

end Go.Proofs.Ytofdmfkncgaelaa
