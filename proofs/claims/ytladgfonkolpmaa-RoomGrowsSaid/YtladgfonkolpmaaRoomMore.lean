/-
  How many pages a directory takes, and how many more a file takes: the program's answers and the document's. Nothing of one statement alone stands here.
-/
import Derived.Test.YtladgfonkolpmaaRoomRefF
import Derived.Test.YtladgfonkolpmaaRoomRefW
import Derived.Test.YtladgfonkolpmaaRoomPlan
namespace Roomm
open Crcm Tagm Inom
/-- so many pages need so many slots -/
def dpg (s k : Int) : Int := k / (s / 16) + if 0 < k % (s / 16) then 1 else 0
/-- the error, and the pages, of a directory -/
def dE (s k : Int) : Int := if Sz s ∧ 0 ≤ k then (if pgs s < dpg s k then 52 else 0) else 1
def dN (s k : Int) : Int := if dE s k = 0 then fN s (upto 0 (dpg s k)) else 0
theorem dE_no {s k : Int} (h : ¬ (Sz s ∧ 0 ≤ k)) : dE s k = 1 := if_neg h
theorem dE_bad {s k : Int} (h : Sz s ∧ 0 ≤ k) (h2 : pgs s < dpg s k) : dE s k = 52 := by unfold dE; rw [if_pos h, if_pos h2]
theorem dE_ok {s k : Int} (h : Sz s ∧ 0 ≤ k) (h2 : ¬ pgs s < dpg s k) : dE s k = 0 := by unfold dE; rw [if_pos h, if_neg h2]
theorem dN_ok {s k : Int} (h : dE s k = 0) : dN s k = fN s (upto 0 (dpg s k)) := if_pos h
theorem dN_no {s k : Int} (h : dE s k ≠ 0) : dN s k = 0 := if_neg h
/-- the error, and how many more pages -/
def mE (s : Int) (l : List Int) (fr to : Int) : Int := if fE s l = 0 then fE s (srt (ext l fr to)) else fE s l
def mN (s : Int) (l : List Int) (fr to : Int) : Int := if mE s l fr to = 0 then fN s (srt (ext l fr to)) - fN s l else 0

theorem fE_upto {s m : Int} (hs : Sz s) (h : m ≤ pgs s) : fE s (upto 0 m) = 0 := fE_ok ⟨hs, upto_ris _ _⟩ fun n hn => by
  have := mem_upto.1 hn
  exact toE_iff.2 ⟨hs, by omega, by omega⟩
theorem fN_nil {s : Int} (hs : Sz s) : fN s [] = 0 := by
  rw [fN_ok ⟨hs, ris_nil⟩ (by simp)]
  have h := ct_zero s []
  unfold ct at h
  simpa using h
theorem fN_bound (s : Int) (l : List Int) : 0 ≤ fN s l ∧ fN s l ≤ (l.length : Int) + 300 := by
  by_cases h : fE s l = 0
  · have h2 := fE_iff.1 h
    rw [fN_ok h2.1 h2.2]
    have := ct_bound s l l.length
    unfold ct at this
    rw [List.take_length] at this
    exact this
  · unfold fN; rw [if_neg h]; omega
theorem srt_upto {m : Int} (h : m ≤ 131072) : srt (ext [] 0 m) = upto 0 m := by
  rw [ext_yes ⟨by omega, h⟩, List.nil_append, srt_id (upto_ris _ _)]
end Roomm
namespace Go.Proofs.Ytladgfonkolpmaa
open Go.RowKit Crcm Tagm Inom Roomm Go.ChangeShapes

set_option maxRecDepth 100000 in
set_option maxHeartbeats 2000000 in
theorem upto_any (m : Int) (w : World) (hm : m ≤ 100000) (hm0 : -9223372036854775808 ≤ m) :
    Calls Try.prog 53 #[.int .i64 m] w fun e w' => ∃ A cc, e = .returned (.slice A (upto 0 m).length cc) ∧ (A = none → cc = 0) ∧ Ri w' A (upto 0 m) ∧ Below w.heap.size w w' := by
  go_enter Try.func53, Try.ntmps53
  go_wp2_with fail
  go_loopw [3, 4] (fun v i wr => ∃ k : Nat, ((k : Int) ≤ m ∨ k = 0) ∧ i = .int .i64 (k : Int) ∧ Hid (wr.ownsRow w.heap.size 3 1 v k ((upto 0 (k : Int)).map (Value.int .i64))) ∧ Hid (Below w.heap.size w wr)) (fun _ i _ => (m - intOf i).toNat)
  case atStart => exact ⟨0, by omega, rfl, Lib.hid (World.ownsRow_nil _ _ _ _), Lib.hid (Below.refl _ _)⟩
  case round =>
    obtain ⟨k, hk, rfl, O, B⟩ := hrel
    by_cases hlt : (k : Int) < m
    · have hx : I64 (k : Int) := by unfold I64; omega
      have hO := O.out
      have hBz := B.out.size
      have hU : Hid (upto 0 (k : Int) ++ [(k : Int)] = upto 0 ((k + 1 : Nat) : Int)) := Lib.hid (by rw [← upto_snoc (by omega)]; rfl)
      go_wp2_with (at_builtin; refine append_ints rfl _ _ rfl w.heap.size _ k _ rfl (hO.alloc _) (some ⟨wr.heap.size, 0, none⟩) 1 1 [(k : Int)] rfl rfl (ri_one wr _ hx) (fun e => by cases e) (by omega) (by simp; omega) ?_; intro v' w' hown' hb' _ _)
      go_roundw
      case rel =>
        refine ⟨k + 1, by omega, by go_num, Lib.hid ?_, Lib.hid (B.out.trans (((Below.refl _ _).alloc hBz _).trans hb'))⟩
        rw [hU.out] at hown'
        exact hown'
      case measure => simp [intOf]; omega
    · have hO := O.out
      have he : upto 0 (k : Int) = upto 0 m := by
        rcases hk with hk | rfl
        · rw [show (k : Int) = m by omega]
        · rw [upto_none (by omega), upto_none (by omega)]
      rw [he] at hO
      have hl : (upto 0 m).length = k := by simpa using hO.1
      obtain ⟨A, cc, rfl, hA⟩ := own_shape hO
      obtain ⟨A', cc', e, hri, -, -⟩ := Ri.of_own hO (fun y hy => by have := mem_upto.1 hy; unfold I64; omega)
      injection e with e1 e2 e3
      subst e1 e3
      have HR := Lib.hid hri
      have HA := Lib.hid hA
      have HL := Lib.hid hl
      clear O hO hri hA he hl
      go_wp2
      go_ret
      exact ⟨A, cc, by rw [HL.out]; rfl, HA.out, HR.out, B.out⟩

set_option maxRecDepth 100000 in
set_option maxHeartbeats 2000000 in
theorem more_any' (s : Int) (l : List Int) (a : Option Addr) (c n : Nat) (fr to : Int) (w : World) (ha : Ri w a l) (_hA0 : a = none → c = 0) (hl : l.length = n) (hn : n ≤ 50000) (hx : (ext l fr to).length ≤ 100000) (hf : I64 fr) (ht : I64 to) :
    Calls Try.prog 29 #[.int .i64 s, .slice a n c, .int .i64 fr, .int .i64 to] w fun e w' => e = .returned (.tuple #[.int .i64 (mN s l fr to), .int .i64 (mE s l fr to)]) ∧ Below w.heap.size w w' := by
  have hsl := Nat.le_trans (srt_length_le (ext l fr to)) hx
  have H1 := Lib.hid (file_any s l a c n w ha hl (by omega))
  have H2 := Lib.hid (fun W (hb : Below w.heap.size w W) => with_any l a c n fr to W (ha.below hb) hl (by omega) hf ht)
  have hb1 := fN_bound s l
  have hb2 := fN_bound s (srt (ext l fr to))
  have H3 := Lib.hid (fun W A cc (hr : Ri W A (srt (ext l fr to))) => file_any s (srt (ext l fr to)) A cc (srt (ext l fr to)).length W hr rfl hsl)
  have HE : Hid (mE s l fr to = if fE s l = 0 then fE s (srt (ext l fr to)) else fE s l) := Lib.hid rfl
  have HNn : Hid (mN s l fr to = if mE s l fr to = 0 then fN s (srt (ext l fr to)) - fN s l else 0) := Lib.hid rfl
  generalize mN s l fr to = rn at HNn ⊢
  generalize mE s l fr to = re at HE HNn ⊢
  generalize hrr : srt (ext l fr to) = r at H2 H3 HE HNn hsl hb2
  generalize fN s l = q1 at H1 HNn hb1
  generalize fE s l = e1 at H1 HE
  generalize fN s r = q2 at H3 HNn hb2
  generalize fE s r = e2 at H3 HE
  have c1 : 0 ≤ q1 := hb1.1
  have c2 : q1 ≤ 50300 := by omega
  have c3 : 0 ≤ q2 := hb2.1
  have c4 : q2 ≤ 100300 := by omega
  clear ha hl hn hx hf ht hrr hb1 hb2 hsl
  by_cases he : e1 = 0
  · have HE1 := Lib.hid (HE.out.trans (if_pos he))
    subst he
    clear HE
    by_cases he2 : e2 = 0
    · subst he2
      have HN2 := Lib.hid (HNn.out.trans (if_pos HE1.out))
      clear HNn
      go_enter Try.func29, Try.ntmps29
      go_wp2_with fail
      refine H1.out.mono ?_
      rintro e w1 ⟨rfl, hb⟩
      have B1 := Lib.hid hb
      clear hb H1
      go_wp2_with fail
      refine (H2.out _ B1.out).mono ?_
      rintro e w2 ⟨A, cc, rfl, -, hr, hb⟩
      have B2 := Lib.hid (B1.out.trans (hb.mono B1.out.size))
      have HR := Lib.hid hr
      clear hb hr H2
      go_wp2_with fail
      refine (H3.out _ _ _ HR.out).mono ?_
      rintro e w3 ⟨rfl, hb⟩
      have B3 := Lib.hid (B2.out.trans (hb.mono B2.out.size))
      clear hb H3
      go_wp2
      go_ret2
      exact ⟨by rw [HN2.out, HE1.out]; rfl, B3.out⟩
    · have t : ((e2 : Int) != 0) = true := by simp [he2]
      have HN2 := Lib.hid (HNn.out.trans (if_neg (by rw [HE1.out]; exact he2)))
      clear HNn he2
      go_enter Try.func29, Try.ntmps29
      go_wp2_with fail
      refine H1.out.mono ?_
      rintro e w1 ⟨rfl, hb⟩
      have B1 := Lib.hid hb
      clear hb H1
      go_wp2_with fail
      refine (H2.out _ B1.out).mono ?_
      rintro e w2 ⟨A, cc, rfl, -, hr, hb⟩
      have B2 := Lib.hid (B1.out.trans (hb.mono B1.out.size))
      have HR := Lib.hid hr
      clear hb hr H2
      go_wp2_with fail
      refine (H3.out _ _ _ HR.out).mono ?_
      rintro e w3 ⟨rfl, hb⟩
      have B3 := Lib.hid (B2.out.trans (hb.mono B2.out.size))
      clear hb H3
      go_wp2
      go_ret2
      exact ⟨by rw [HN2.out, HE1.out]; rfl, B3.out⟩
  · have t : ((e1 : Int) != 0) = true := by simp [he]
    have HE1 := Lib.hid (HE.out.trans (if_neg he))
    have HN2 := Lib.hid (HNn.out.trans (if_neg (by rw [HE1.out]; exact he)))
    clear HE HNn he
    go_enter Try.func29, Try.ntmps29
    go_wp2_with fail
    refine H1.out.mono ?_
    rintro e w1 ⟨rfl, hb⟩
    have B1 := Lib.hid hb
    clear hb H1
    go_wp2
    go_ret2
    exact ⟨by rw [HN2.out, HE1.out]; rfl, B1.out⟩

set_option maxRecDepth 100000 in
set_option maxHeartbeats 2000000 in
theorem refmore_any' (s : Int) (l : List Int) (a : Option Addr) (c n : Nat) (fr to : Int) (w : World) (ha : Ri w a l) (hA0 : a = none → c = 0) (hl : l.length = n) (hn : n ≤ 50000) (hx : (ext l fr to).length ≤ 100000) (hf : I64 fr) (ht : I64 to) :
    Calls Try.prog 30 #[.int .i64 s, .slice a n c, .int .i64 fr, .int .i64 to] w fun e w' => e = .returned (.tuple #[.int .i64 (mN s l fr to), .int .i64 (mE s l fr to)]) ∧ Below w.heap.size w w' := by
  have hsl := Nat.le_trans (srt_length_le (ext l fr to)) hx
  have H1 := Lib.hid (reffile_any s l a c n w ha hl (by omega))
  have H2 := Lib.hid (fun W (hb : Below w.heap.size w W) => refwith_any l a c n fr to W (ha.below hb) hl (by omega) hA0 hf ht)
  have hb1 := fN_bound s l
  have hb2 := fN_bound s (srt (ext l fr to))
  have H3 := Lib.hid (fun W A cc (hr : Ri W A (srt (ext l fr to))) => reffile_any s (srt (ext l fr to)) A cc (srt (ext l fr to)).length W hr rfl hsl)
  have HE : Hid (mE s l fr to = if fE s l = 0 then fE s (srt (ext l fr to)) else fE s l) := Lib.hid rfl
  have HNn : Hid (mN s l fr to = if mE s l fr to = 0 then fN s (srt (ext l fr to)) - fN s l else 0) := Lib.hid rfl
  generalize mN s l fr to = rn at HNn ⊢
  generalize mE s l fr to = re at HE HNn ⊢
  generalize hrr : srt (ext l fr to) = r at H2 H3 HE HNn hsl hb2
  generalize fN s l = q1 at H1 HNn hb1
  generalize fE s l = e1 at H1 HE
  generalize fN s r = q2 at H3 HNn hb2
  generalize fE s r = e2 at H3 HE
  have c1 : 0 ≤ q1 := hb1.1
  have c2 : q1 ≤ 50300 := by omega
  have c3 : 0 ≤ q2 := hb2.1
  have c4 : q2 ≤ 100300 := by omega
  clear ha hl hn hx hf ht hrr hA0 hb1 hb2 hsl
  by_cases he : e1 = 0
  · have HE1 := Lib.hid (HE.out.trans (if_pos he))
    subst he
    clear HE
    by_cases he2 : e2 = 0
    · subst he2
      have HN2 := Lib.hid (HNn.out.trans (if_pos HE1.out))
      clear HNn
      go_enter Try.func30, Try.ntmps30
      go_wp2_with fail
      refine H1.out.mono ?_
      rintro e w1 ⟨rfl, hb⟩
      have B1 := Lib.hid hb
      clear hb H1
      go_wp2_with fail
      refine (H2.out _ B1.out).mono ?_
      rintro e w2 ⟨A, cc, rfl, -, hr, hb⟩
      have B2 := Lib.hid (B1.out.trans (hb.mono B1.out.size))
      have HR := Lib.hid hr
      clear hb hr H2
      go_wp2_with fail
      refine (H3.out _ _ _ HR.out).mono ?_
      rintro e w3 ⟨rfl, hb⟩
      have B3 := Lib.hid (B2.out.trans (hb.mono B2.out.size))
      clear hb H3
      go_wp2
      go_ret2
      exact ⟨by rw [HN2.out, HE1.out]; rfl, B3.out⟩
    · have t : ((e2 : Int) != 0) = true := by simp [he2]
      have HN2 := Lib.hid (HNn.out.trans (if_neg (by rw [HE1.out]; exact he2)))
      clear HNn he2
      go_enter Try.func30, Try.ntmps30
      go_wp2_with fail
      refine H1.out.mono ?_
      rintro e w1 ⟨rfl, hb⟩
      have B1 := Lib.hid hb
      clear hb H1
      go_wp2_with fail
      refine (H2.out _ B1.out).mono ?_
      rintro e w2 ⟨A, cc, rfl, -, hr, hb⟩
      have B2 := Lib.hid (B1.out.trans (hb.mono B1.out.size))
      have HR := Lib.hid hr
      clear hb hr H2
      go_wp2_with fail
      refine (H3.out _ _ _ HR.out).mono ?_
      rintro e w3 ⟨rfl, hb⟩
      have B3 := Lib.hid (B2.out.trans (hb.mono B2.out.size))
      clear hb H3
      go_wp2
      go_ret2
      exact ⟨by rw [HN2.out, HE1.out]; rfl, B3.out⟩
  · have t : ((e1 : Int) != 0) = true := by simp [he]
    have HE1 := Lib.hid (HE.out.trans (if_neg he))
    have HN2 := Lib.hid (HNn.out.trans (if_neg (by rw [HE1.out]; exact he)))
    clear HE HNn he
    go_enter Try.func30, Try.ntmps30
    go_wp2_with fail
    refine H1.out.mono ?_
    rintro e w1 ⟨rfl, hb⟩
    have B1 := Lib.hid hb
    clear hb H1
    go_wp2
    go_ret2
    exact ⟨by rw [HN2.out, HE1.out]; rfl, B1.out⟩

end Go.Proofs.Ytladgfonkolpmaa
