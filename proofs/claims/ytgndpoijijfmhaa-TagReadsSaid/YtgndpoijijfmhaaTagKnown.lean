/-
  What the fixed calls answer that every statement on tags holds beside itself; what Read answers to any bytes.
-/
import Derived.Test.YtgndpoijijfmhaaTagRead
namespace Go.Proofs.Ytgndpoijijfmhaa
open Go.RowKit Crcm Tagm Go.ChangeShapes

/-- what Read's error is -/
def rdF (l : List Int) : Int := if Sz ((l.length : Int) - 32) then (if Er l then 20 else if Vl (l.length - 32) l then 0 else 21) else 1

/-- what Read answers to any bytes -/
def RdA (w : World) (l : List Int) (r : Ending) (w' : World) : Prop :=
  Below w.heap.size w w' ∧ ((rdF l ≠ 0 ∧ r = .returned (Bad (rdF l))) ∨
    (rdF l = 0 ∧ ∃ n, l.length = n + 32 ∧ Sz n ∧ Vl n l ∧ ∃ A c, r = .returned (.tuple #[tg (tk n l) (tp n l) (ts n l) (te n l), .slice A n c, .int .i64 0]) ∧ Rw w' A (l.take n)))

theorem read_any (a : Option Addr) (len cap : Nat) (l : List Int) (w : World) (hr : Rw w a l) (hl : l.length = len) (hcap : len ≤ cap) :
    Calls Try.prog 22 #[.slice a len cap] w (RdA w l) := by
  subst hl
  by_cases hs : Sz ((l.length : Int) - 32)
  · obtain ⟨n, hn⟩ : ∃ n, l.length = n + 32 := ⟨l.length - 32, by unfold Sz at hs; omega⟩
    have hs' : Sz n := by rw [hn] at hs; simpa using hs
    have hn2 : l.length - 32 = n := by omega
    by_cases he : Er l
    · have h := read_erased a n cap l w hs' hr hn he
      rw [← hn] at h
      refine h.mono ?_
      rintro r w' ⟨rfl, hb⟩
      have e : rdF l = 20 := by unfold rdF; rw [if_pos hs, if_pos he]
      exact ⟨hb, .inl ⟨by rw [e]; decide, by rw [e]⟩⟩
    · have h := read_page a n cap l w hs' hr hn (by omega) he
      rw [← hn] at h
      refine h.mono ?_
      rintro r w' ⟨hb, ⟨hv, rfl⟩ | ⟨hv, A, c, rfl, hA⟩⟩
      · have e : rdF l = 21 := by unfold rdF; rw [if_pos hs, if_neg he, hn2, if_neg hv]
        exact ⟨hb, .inl ⟨by rw [e]; decide, by rw [e]⟩⟩
      · have e : rdF l = 0 := by unfold rdF; rw [if_pos hs, if_neg he, hn2, if_pos hv]
        exact ⟨hb, .inr ⟨e, n, hn, hs', hv, A, c, rfl, hA⟩⟩
  · refine (read_arg a l.length cap w hs hr.2.1).mono ?_
    rintro r w' ⟨rfl, hb⟩
    have e : rdF l = 1 := by unfold rdF; rw [if_neg hs]
    exact ⟨hb, .inl ⟨by rw [e]; decide, by rw [e]⟩⟩

/-- bytes 0 -/
def zz (n : Nat) : List Int := List.replicate n 0
theorem zz_U8 (n : Nat) : ∀ b ∈ zz n, U8 b := by intro b hb; unfold zz at hb; rw [List.mem_replicate] at hb; rw [hb.2]; exact ⟨by decide, by decide⟩
theorem zz_len (n : Nat) : (zz n).length = n := by simp [zz]
theorem zz_own {w : World} {base n : Nat} {v : Value} (h : w.ownsRow base 5 1 v n (madeCells #[Value.int .u8 0] n).toList) : w.ownsRow base 5 1 v n ((zz n).map (Value.int .u8)) := by
  rw [toList_madeCells_one] at h
  have e0 : List.replicate n (Value.int .u8 0) = (zz n).map (Value.int .u8) := by unfold zz; rw [List.map_replicate]
  rw [← e0]
  exact h
theorem zz_bad : rdF (zz 96) = 21 := by
  have h1 : ¬ Er (zz 96) := by intro h; have := h 0 (by simp [zz]); omega
  have h2 : ¬ Vl 64 (zz 96) := by
    intro h
    have := h.1.1
    have e : tk 64 (zz 96) = 0 := by decide
    rw [e] at this
    omega
  unfold rdF
  rw [if_pos (by rw [zz_len]; decide), if_neg h1, zz_len, if_neg h2]

theorem kt : Rt 1 3 5 2 := by decide
theorem kn_64 (z : List Int) (h : z.length = 64) : (pg 1 3 5 2 z).getD 64 0 = 67 ∧ (pg 1 3 5 2 z).getD 68 0 = 3 := by
  rw [pg_flat]
  simp [List.getD_eq_getElem?_getD, h, le]

set_option maxRecDepth 100000 in
set_option maxHeartbeats 2000000 in
theorem known_any (w : World) :
    Calls Try.prog 16 #[] w fun e w' => e = .returned (.bool true) ∧ Below w.heap.size w w' := by
  obtain ⟨i0, hi, hz0, hz1, hz2⟩ := info_parts Try.info8
  have HW := Lib.hid (fun a w hz => write_len (k := 1) (p := 3) (s := 5) (e := 2) (a := a) (cap := 64) (m := 64) (z := zz 64) (w := w) kt (by decide) hz (zz_len 64))
  unfold tg at HW
  go_enter Try.func16, Try.ntmps16
  go_wp2_with (at_make; refine wpList_make_full _ rfl _ _ 26 rfl w.heap.size 5 i0 (.int .u8 0) 1 Try.underlying26 hi hz0 hz1 _ _ _ _ 64 rfl rfl rfl rfl ?c1 ?c2 ?c3 ?_)
  case c1 => rw [hz2]; omega
  case c2 => unfold maxLen; omega
  case c3 => exact Nat.le_refl _
  intro w1 hown1 hg1
  have hb1 : Below w.heap.size w w1 := (Below.refl _ _).grown hg1 (Nat.le_refl _) (fun g hg => by cases hg)
  obtain ⟨a1, c1, ev, hr1, -, -⟩ := Rw.of_own (zz_own hown1) (zz_U8 64)
  injection ev with ev1 _ ev2
  subst ev1 ev2
  clear hown1 hg1
  go_wp2_with fail
  refine (HW.out _ _ hr1).mono ?_
  rintro r w2 ⟨v2, rfl, hown2, hb2⟩
  obtain ⟨a2, c2, rfl, hr2, hl2, hc2⟩ := Rw.of_own hown2 (pg_U8 _ _ _ _ _ (zz_U8 64))
  have hb02 := hb1.trans (hb2.mono hb1.size)
  have HL2 := Lib.hid hl2
  have HR2 := Lib.hid hr2
  clear hown2 hl2 hr2 hr1 hb1 hb2
  go_wp2_with fail
  refine (read_any _ _ _ _ _ HR2.out HL2.out hc2).mono ?_
  rintro r w3 ⟨hb3, ⟨hf, _⟩ | ⟨_, n, hn, _, hv, A, c, rfl, hA⟩⟩
  · exfalso
    obtain ⟨_, _, _, _, hV⟩ := Vl_pg (zz 64) kt
    rw [zz_len] at hV
    apply hf
    unfold rdF
    rw [HL2.out, if_pos (by decide), if_neg (pg_not_Er _ _ _ _ _), if_pos hV]
  · have hn64 : n = 64 := by have := HL2.out; omega
    subst hn64
    obtain ⟨e1, e2, e3, e4, _⟩ := Vl_pg (zz 64) kt
    rw [zz_len] at e1 e2 e3 e4
    rw [e1, e2, e3, e4]
    unfold tg
    have hb03 := hb02.trans (hb3.mono hb02.size)
    have HR3 := Lib.hid (HR2.out.below hb3)
    clear e1 e2 e3 e4 hv hA hn hb3 hb02
    go_wp2_with (at_make; refine wpList_make_full _ rfl _ _ 26 rfl w.heap.size 5 i0 (.int .u8 0) 1 Try.underlying26 hi hz0 hz1 _ _ _ _ 96 rfl rfl rfl rfl ?c1 ?c2 ?c3 ?_)
    case c1 => rw [hz2]; omega
    case c2 => unfold maxLen; omega
    case c3 => have := hb03.size; simp; omega
    intro w4 hown4 hg4
    have hs3 := hb03.size
    have hT := TgAt.new w3 1 3 5 2 (0, 0)
    have hA1 : Below w3.heap.size w3 (w3.alloc (.cells #[.int .i64 1, .int .u32 3, .int .u64 5, .int .u64 2] 25)) := (Below.refl _ _).alloc (Nat.le_refl _) _
    have hg4' : Below (w3.heap.size + 1) (w3.alloc (.cells #[.int .i64 1, .int .u32 3, .int .u64 5, .int .u64 2] 25)) w4 := (Below.refl _ _).grown hg4 (by simp) (fun g hg => by cases hg)
    have hT4 := hT.below hg4' (by simp)
    have hb34 : Below w3.heap.size w3 w4 := hA1.trans (hg4'.mono (Nat.le_succ _))
    obtain ⟨a4, c4, ev, hr4, -, -⟩ := Rw.of_own (zz_own hown4) (zz_U8 96)
    injection ev with ev1 _ ev2
    subst ev1 ev2
    have hs4 := hb34.size
    have hlt4 : w3.heap.size < w4.heap.size := by have := hg4'.size; simp at this; omega
    have HT4 := Lib.hid hT4
    have HB34 := Lib.hid hb34
    have HB03 := Lib.hid hb03
    clear hown4 hg4 hT hA1 hg4' hT4 hb34 hb03
    go_wp2_with fail
    refine (read_any _ _ _ _ _ hr4 (zz_len 96) (Nat.le_refl _)).mono ?_
    rintro r w5 ⟨hb5, ⟨_, rfl⟩ | ⟨hf, _⟩⟩
    · rw [zz_bad]
      unfold Bad tg
      have hbz : Below w5.heap.size w5 (w5.alloc (.cells #[.int .i64 0, .int .u32 0, .int .u64 0, .int .u64 0] 25)) := (Below.refl _ _).alloc (Nat.le_refl _) _
      obtain ⟨t0, t1, t2, t3⟩ := (HT4.out.below hb5 hlt4).below hbz (Nat.lt_of_lt_of_le hlt4 hb5.size)
      have HB05 := Lib.hid (HB03.out.trans ((HB34.out.mono hs3).trans (hb5.mono (by omega))))
      obtain ⟨g, off, rfl, hc⟩ : ∃ g off, a2 = some ⟨g, off, none⟩ ∧ ∀ i, i < 96 → (w5.alloc (.cells #[.int .i64 0, .int .u32 0, .int .u64 0, .int .u64 0] 25)).cell? ⟨g, off + i, none⟩ = some (.int .u8 ((pg 1 3 5 2 (zz 64)).getD i 0)) := by
        have h := ((HR3.out.below HB34.out).below hb5).below hbz
        rcases h.2.2 with h0 | ⟨b, off, rfl, h1⟩
        · have := HL2.out; rw [h0] at this; simp at this
        · exact ⟨b, off, rfl, fun i hi => h1 i (by have := HL2.out; omega)⟩
      obtain ⟨k64, k68⟩ := kn_64 (zz 64) (zz_len 64)
      have c64 := hc 64 (by omega)
      have c68 := hc 68 (by omega)
      rw [k64] at c64
      rw [k68] at c68
      clear hc k64 k68 hr4 hb5 hbz
      go_wp2
      go_ret
      exact ⟨rfl, HB05.out.alloc (Below.size HB05.out) _⟩
    · exfalso; rw [zz_bad] at hf; omega

end Go.Proofs.Ytgndpoijijfmhaa
