/-
  How many pages a file takes: the document's answer. Nothing of one statement alone stands here.
-/
import Derived.Test.YtladgfonkolpmaaRoomFile
namespace Roomm
open Crcm Tagm Inom
/-- the level and the first number of the way ahead of a place -/
def wl (s : Int) (l : List Int) (k : Nat) : Int := if k = 0 then 0 else lv s (l.getD (k - 1) 0)
def wf (s : Int) (l : List Int) (k : Nat) : Int := if k = 0 then 0 else fi s (l.getD (k - 1) 0)
theorem wl_succ (s : Int) (l : List Int) (k : Nat) : wl s l (k + 1) = lv s (l.getD k 0) := by unfold wl; rw [if_neg (by omega)]; rfl
theorem wf_succ (s : Int) (l : List Int) (k : Nat) : wf s l (k + 1) = fi s (l.getD k 0) := by unfold wf; rw [if_neg (by omega)]; rfl

theorem take_mem {l : List Int} {k : Nat} {y : Int} (h : y ∈ l.take k) : ∃ i, i < k ∧ i < l.length ∧ l.getD i 0 = y := by
  obtain ⟨i, hi, e⟩ := mem_getD h
  rw [List.length_take] at hi
  refine ⟨i, by omega, by omega, ?_⟩
  rw [← e]
  simp [List.getD_eq_getElem?_getD, show i < k by omega]
theorem mem_take_at {l : List Int} {k i : Nat} (h : i < k) (hi : i < l.length) : l.getD i 0 ∈ l.take k := by
  have : (l.take k).getD i 0 = l.getD i 0 := by simp [List.getD_eq_getElem?_getD, h]
  rw [← this]
  exact getD_mem (by rw [List.length_take]; omega)
theorem ris_le {l : List Int} (h : ris l) {i j : Nat} (hij : i ≤ j) (hj : j < l.length) : l.getD i 0 ≤ l.getD j 0 := by
  rcases Nat.lt_or_eq_of_le hij with g | rfl
  · exact Int.le_of_lt (ris_lt' h g hj)
  · exact Int.le_refl _

/-- a level of the way ahead tells whether there was one -/
theorem any_last {s : Int} {l : List Int} {k : Nat} {q : Int} (hr : ris l) (hk : k < l.length) (hx : lv s (l.getD k 0) = q) (hq : 0 < q) : (l.take k).any (fun n => decide (lv s n = q)) = decide (wl s l k = q) := by
  by_cases h0 : k = 0
  · subst h0
    simp [wl]; omega
  · have e : wl s l k = lv s (l.getD (k - 1) 0) := by unfold wl; rw [if_neg h0]
    rw [e]
    by_cases h : lv s (l.getD (k - 1) 0) = q
    · rw [decide_eq_true h, List.any_eq_true]
      exact ⟨_, mem_take_at (by omega) (by omega), decide_eq_true h⟩
    · rw [decide_eq_false h]
      refine Bool.eq_false_iff.2 fun g => h ?_
      rw [List.any_eq_true] at g
      obtain ⟨y, hy, hp⟩ := g
      obtain ⟨i, h1, h2, rfl⟩ := take_mem hy
      have a := lv_mono (s := s) (ris_le hr (show i ≤ k - 1 by omega) (by omega))
      have b := lv_mono (s := s) (ris_le hr (show k - 1 ≤ k by omega) hk)
      have c := of_decide_eq_true hp
      omega
theorem at2_last {s : Int} {l : List Int} {k g : Nat} (hs : Sz s) (hr : ris l) (hk : k < l.length) (hx : lv s (l.getD k 0) = 2) (hg : fi s (l.getD k 0) = (g : Int)) : at2 s (l.take k) g = decide (wl s l k = 2 ∧ wf s l k = (g : Int)) := by
  by_cases h0 : k = 0
  · subst h0
    simp [wl, at2]
  · have e : wl s l k = lv s (l.getD (k - 1) 0) := by unfold wl; rw [if_neg h0]
    have e2 : wf s l k = fi s (l.getD (k - 1) 0) := by unfold wf; rw [if_neg h0]
    rw [e, e2]
    unfold at2
    by_cases h : lv s (l.getD (k - 1) 0) = 2 ∧ fi s (l.getD (k - 1) 0) = (g : Int)
    · rw [decide_eq_true h, List.any_eq_true]
      exact ⟨_, mem_take_at (by omega) (by omega), decide_eq_true h⟩
    · rw [decide_eq_false h]
      refine Bool.eq_false_iff.2 fun q => h ?_
      rw [List.any_eq_true] at q
      obtain ⟨y, hy, hp⟩ := q
      obtain ⟨i, h1, h2, rfl⟩ := take_mem hy
      obtain ⟨c1, c2⟩ := of_decide_eq_true hp
      have l1 := ris_le hr (show i ≤ k - 1 by omega) (by omega)
      have l2 := ris_le hr (show k - 1 ≤ k by omega) hk
      have a := lv_mono (s := s) l1
      have b := lv_mono (s := s) l2
      have hv : lv s (l.getD (k - 1) 0) = 2 := by omega
      have f1 := fi_mono hs l1 c1 hv
      have f2 := fi_mono hs l2 hv hx
      exact ⟨hv, by omega⟩

/-- how many pages so far -/
def ct (s : Int) (l : List Int) (k : Nat) : Int := (cnt s (l.take k) : Int)
theorem ct0 {s : Int} {l : List Int} {k : Nat} (hk : k < l.length) (hx : lv s (l.getD k 0) = 0) : ct s l (k + 1) = ct s l k + 1 := by
  unfold ct cnt
  rw [take_getD hk, l1_snoc, dd_snoc, k2_snoc_other _ (by omega), if_neg (by omega), if_neg (by omega), List.length_append]
  simp; omega
theorem ct1 {s : Int} {l : List Int} {k : Nat} (hr : ris l) (hk : k < l.length) (hx : lv s (l.getD k 0) = 1) : ct s l (k + 1) = ct s l k + 1 + if wl s l k = 1 then 0 else 1 := by
  have h := any_last hr hk hx (by omega)
  have hl : l1 s (l.take k) = if wl s l k = 1 then 1 else 0 := by unfold l1; rw [h]; by_cases g : wl s l k = 1 <;> simp [g]
  unfold ct cnt
  rw [take_getD hk, l1_snoc, dd_snoc, k2_snoc_other _ (by omega), if_pos hx, if_neg (by omega), List.length_append, hl]
  split <;> simp <;> omega
theorem ct2 {s : Int} {l : List Int} {k : Nat} (hs : Sz s) (hr : ris l) (hk : k < l.length) (ht : toE s (l.getD k 0) = 0) (hx : lv s (l.getD k 0) = 2) :
    ct s l (k + 1) = ct s l k + 1 + (if wl s l k = 2 then 0 else 1) + if wl s l k = 2 ∧ wf s l k = fi s (l.getD k 0) then 0 else 1 := by
  have h := any_last hr hk hx (by omega)
  have hd : dd s (l.take k) = if wl s l k = 2 then 1 else 0 := by unfold dd; rw [h]; by_cases g : wl s l k = 2 <;> simp [g]
  obtain ⟨f0, f1⟩ := fi_lt ht hx
  obtain ⟨g, hg⟩ : ∃ g : Nat, fi s (l.getD k 0) = (g : Int) := ⟨(fi s (l.getD k 0)).toNat, by omega⟩
  have h2 := at2_last hs hr hk hx hg
  unfold ct cnt
  rw [take_getD hk, l1_snoc, dd_snoc, k2_snoc _ hx hg (by omega), if_neg (by omega), if_pos hx, List.length_append, hd, h2, hg]
  by_cases a : wl s l k = 2
  · by_cases b : wf s l k = (g : Int)
    · simp [a, b]; omega
    · simp [a, b]; omega
  · simp [a]; omega
theorem ct_zero (s : Int) (l : List Int) : ct s l 0 = 0 := by
  unfold ct cnt
  have : k2 s (l.take 0) = 0 := by
    unfold k2
    rw [List.filter_eq_nil_iff.2 (fun f _ => by simp [at2])]; rfl
  rw [this]; simp [l1, dd]
theorem ct_bound (s : Int) (l : List Int) (k : Nat) : 0 ≤ ct s l k ∧ ct s l k ≤ (k : Int) + 300 := by
  unfold ct cnt
  have h1 := l1_le s (l.take k)
  have h2 := dd_le s (l.take k)
  have h3 : k2 s (l.take k) ≤ 256 := by
    unfold k2
    exact Nat.le_trans (List.length_filter_le _ _) (by simp)
  have h4 : (l.take k).length ≤ k := by rw [List.length_take]; omega
  omega
end Roomm
namespace Go.Proofs.Ytladgfonkolpmaa
open Go.RowKit Crcm Tagm Inom Roomm Go.ChangeShapes

theorem triple {w : World} {g : Nat} {t : TypeId} {a b c : Int} (h : Blk w g t #[.int .i64 a, .int .i64 b, .int .i64 c]) :
    w.cell? ⟨g, 0, none⟩ = some (.int .i64 a) ∧ w.cell? ⟨g, 1, none⟩ = some (.int .i64 b) ∧ w.cell? ⟨g, 2, none⟩ = some (.int .i64 c) := ⟨h.cell 0, h.cell 1, h.cell 2⟩

theorem put_facts {w : World} {g : Nat} {t : TypeId} {a b c : Int} (h : Blk w g t #[.int .i64 a, .int .i64 b, .int .i64 c]) (A B : Value) :
    (w.setCell ⟨g, 0, none⟩ A).cell? ⟨g, 1, none⟩ = some (.int .i64 b) ∧ (w.setCell ⟨g, 0, none⟩ A).frozen? ⟨g, 1, none⟩ = false ∧ ((w.setCell ⟨g, 0, none⟩ A).setCell ⟨g, 1, none⟩ B).cell? ⟨g, 2, none⟩ = some (.int .i64 c) ∧ ((w.setCell ⟨g, 0, none⟩ A).setCell ⟨g, 1, none⟩ B).frozen? ⟨g, 2, none⟩ = false :=
  ⟨by simpa using (h.put 0 A).cell 1, (h.put 0 A).frozen 1, by simpa using ((h.put 0 A).put 1 B).cell 2, ((h.put 0 A).put 1 B).frozen 2⟩

/-- a block of three numbers, written over -/
def ov3 (w : World) (g : Nat) (a b c : Int) : World := ((w.setCell ⟨g, 0, none⟩ (.int .i64 a)).setCell ⟨g, 1, none⟩ (.int .i64 b)).setCell ⟨g, 2, none⟩ (.int .i64 c)
theorem ov3_blk {w : World} {g : Nat} {t : TypeId} {x y z a b c : Int} (h : Blk w g t #[.int .i64 x, .int .i64 y, .int .i64 z]) : Blk (ov3 w g a b c) g t #[.int .i64 a, .int .i64 b, .int .i64 c] := by
  have := ((h.put 0 (.int .i64 a)).put 1 (.int .i64 b)).put 2 (.int .i64 c)
  simpa [ov3] using this
theorem ov3_below {w0 w : World} {B g : Nat} {a b c : Int} (h : Below B w0 w) (hg : B ≤ g) : Below B w0 (ov3 w g a b c) := by
  unfold ov3
  exact ((h.setCell (p := ⟨g, 0, none⟩) hg _).setCell (p := ⟨g, 1, none⟩) hg _).setCell (p := ⟨g, 2, none⟩) hg _

set_option maxRecDepth 100000 in
set_option maxHeartbeats 4000000 in
theorem reffile_yes (s : Int) (l : List Int) (a : Option Addr) (c n : Nat) (w : World) (ha : Ri w a l) (hl : l.length = n) (h : Sz s ∧ ris l) (hn : n ≤ 100000) :
    Calls Try.prog 25 #[.int .i64 s, .slice a n c] w fun e w' => e = .returned (.tuple #[.int .i64 (fN s l), .int .i64 (fE s l)]) ∧ Below w.heap.size w w' := by
  have HS := Lib.hid (fun w => irefsized_yes s w h.1)
  have HT := Lib.hid (fun n w => refto_any s n w)
  have HA := Lib.hid ha
  have HL := Lib.hid hl
  have H := Lib.hid h
  have n1 : n ≤ 9223372036854775807 := by omega
  unfold wy at HT
  have HN := Lib.hid hn
  clear ha hl h hn
  go_enter Try.func25, Try.ntmps25
  go_wp2_with fail
  refine (HS.out _).mono ?_
  rintro e w' ⟨rfl, rfl⟩
  go_wp2_with fail
  go_loopw [6] (fun i wr => ∃ k : Nat, (k ≤ n ∨ k = 1) ∧ 1 ≤ k ∧ i = .int .i64 k ∧ Hid (Below w.heap.size w wr)) (fun i _ => n - (intOf i).toNat)
  case atStart => exact ⟨1, by omega, by omega, rfl, Lib.hid (Below.refl _ _)⟩
  case round =>
    obtain ⟨k, hk, hk1, rfl, hbel⟩ := hrel
    by_cases hlt : k < n
    · have hkl : k < l.length := by have := HL.out; omega
      obtain ⟨b1, o1, rfl, h1⟩ := (HA.out.below hbel.out).at hkl
      obtain ⟨b2, o2, e2, h2⟩ := (HA.out.below hbel.out).at (j := k - 1) (by omega)
      injection e2 with e2
      injection e2 with e3 e4
      subst e3 e4
      have hxy : l.getD (k - 1) 0 < l.getD k 0 := by
        have := ris_at H.out.2 (i := k - 1) (by omega)
        rwa [show k - 1 + 1 = k by omega] at this
      generalize l.getD k 0 = x at h1 hxy
      generalize l.getD (k - 1) 0 = y at h2 hxy
      have e1 := fun mm : Later wr => latercell mm h1
      have e2 := fun mm : Later wr => latercell mm h2
      have kl : (k : Int) < (n : Int) := by omega
      have k0 : (0 : Int) ≤ (k : Int) - 1 := by omega
      have kl' : (k : Int) - 1 < (n : Int) := by omega
      have kt : ((k : Int) - 1).toNat = k - 1 := by omega
      have t : ¬ x ≤ y := by omega
      clear h1 h2 hkl hxy
      go_wp2_with fail
      refine wp_region_later (by kernel_rfl) (by kernel_rfl) ?_
      repeat (go_big_quiet_step (fail))
      refine wpQuiet_nil ?_
      rintro _ ⟨mm, rfl⟩
      go_wp2
      go_roundw
      case rel => exact ⟨k + 1, by omega, by omega, by go_num, Lib.hid (hbel.out.trans (mm.bel.mono hbel.out.size))⟩
      case measure => simp [intOf]; omega
    · obtain ⟨W1, rfl⟩ : ∃ W, W = wr := ⟨_, rfl⟩
      have HW : Hid (Below w.heap.size w (W1.alloc (.cells #[.int .i64 0, .int .i64 0, .int .i64 0] 76))) := Lib.hid (hbel.out.alloc hbel.out.size _)
      have HZ : Hid (w.heap.size ≤ W1.heap.size) := Lib.hid hbel.out.size
      have HBk : Hid (Blk (W1.alloc (.cells #[.int .i64 0, .int .i64 0, .int .i64 0] 76)) W1.heap.size 76 #[.int .i64 0, .int .i64 0, .int .i64 0]) := Lib.hid (Blk.new _ _ _)
      clear hbel
      go_wp2_with fail
      go_loopw [7, 9] (fun v i wr => ∃ (k : Nat) (p : Int), k ≤ n ∧ i = .int .i64 k ∧ v = .int .i64 (ct s l k) ∧ Hid (Blk wr W1.heap.size 76 #[.int .i64 (wl s l k), .int .i64 (wf s l k), .int .i64 p]) ∧ Hid (Below w.heap.size w wr) ∧ Hid (∀ x ∈ l.take k, toE s x = 0)) (fun _ i _ => n - (intOf i).toNat)
      case atStart => exact ⟨0, 0, by omega, rfl, by rw [ct_zero], HBk, HW, Lib.hid (fun x hx => by simp at hx)⟩
      case round =>
        obtain ⟨k, p, hk, rfl, rfl, BK, B, E⟩ := hrel
        by_cases hlt : k < n
        · have hkl : k < l.length := by have := HL.out; omega
          obtain ⟨b1, o1, rfl, h1⟩ := (HA.out.below B.out).at hkl
          have kl : (k : Int) < (n : Int) := by omega
          obtain ⟨x, hx⟩ : ∃ x, l.getD k 0 = x := ⟨_, rfl⟩
          rw [hx] at h1
          have HT2 := Lib.hid (HT.out x)
          by_cases he : toE s x = 0
          · have hw := way_of he
            rw [hw.1, hw.2.1, hw.2.2, he] at HT2
            have E' : Hid (∀ y ∈ l.take (k + 1), toE s y = 0) := Lib.hid (fun y hy => by
              rw [take_getD hkl, List.mem_append] at hy
              rcases hy with hy | hy
              · exact E.out y hy
              · rw [List.mem_singleton.1 hy, hx]; exact he)
            have hfi := fi_any he
            have hwl : wl s l (k + 1) = lv s x := by rw [wl_succ, hx]
            have hwf : wf s l (k + 1) = fi s x := by rw [wf_succ, hx]
            have hcb := ct_bound s l k
            have C0 := Lib.hid (fun (g : lv s x = 0) => ct0 hkl (by rw [hx]; exact g))
            have C1 := Lib.hid (fun (g : lv s x = 1) => ct1 H.out.2 hkl (by rw [hx]; exact g))
            have C2 := Lib.hid (fun (g : lv s x = 2) => (ct2 H.out.1 H.out.2 hkl (by rw [hx]; exact he) (by rw [hx]; exact g)))
            rw [hx] at C2
            have HWL := Lib.hid hwl
            have HWF := Lib.hid hwf
            have hlv := lv_cases (s := s) (n := x)
            generalize lv s x = a1 at HT2 HWL C0 C1 C2 hlv
            generalize fi s x = a2 at HT2 HWF C2 hfi
            generalize se s x = a3 at HT2
            generalize wl s l k = u1 at C1 C2 BK
            generalize wf s l k = u2 at C1 C2 BK
            have hkn : (k : Int) ≤ 100000 := by have := HN.out; omega
            generalize ct s l k = q at C0 C1 C2 hcb ⊢
            clear he hx hkl hw hwl hwf
            rcases hlv with rfl | rfl | rfl
            · have C := Lib.hid (C0.out rfl)
              go_wp2_with fail
              refine (HT2.out _).mono ?_
              rintro e w2 ⟨rfl, hb2⟩
              have B2 := Lib.hid (B.out.trans (hb2.mono B.out.size))
              have K2 := Lib.hid (BK.out.below hb2 BK.out.lt)
              have B3 := Lib.hid (B2.out.alloc B2.out.size (.cells #[.int .i64 0, .int .i64 a2, .int .i64 a3] 76))
              have K3 := Lib.hid (K2.out.alloc (.cells #[.int .i64 0, .int .i64 a2, .int .i64 a3] 76))
              have d0 := (triple K3.out).1
              have d1 := (triple K3.out).2.1
              have e0 := (triple (Blk.new w2 76 #[.int .i64 0, .int .i64 a2, .int .i64 a3])).1
              have e1 := (triple (Blk.new w2 76 #[.int .i64 0, .int .i64 a2, .int .i64 a3])).2.1
              have e2 := (triple (Blk.new w2 76 #[.int .i64 0, .int .i64 a2, .int .i64 a3])).2.2
              have f0 := K3.out.frozen 0
              have f1 := K3.out.frozen 1
              have f2 := K3.out.frozen 2
              have d2 := (triple K3.out).2.2
              have hsz : W1.heap.size < w2.heap.size := K2.out.lt
              obtain ⟨i0, i1, i2⟩ := triple K2.out
              have j0 := K2.out.frozen 0
              have pf := fun A B => put_facts K3.out A B
              have pg := fun A B => put_facts K2.out A B
              have p1 := fun A => (pf A undef).1
              have p2 := fun A => (pf A undef).2.1
              have p3 := fun A B => (pf A B).2.2.1
              have p4 := fun A B => (pf A B).2.2.2
              have r1 := fun A => (pg A undef).1
              have r2 := fun A => (pg A undef).2.1
              have r3 := fun A B => (pg A B).2.2.1
              have r4 := fun A B => (pg A B).2.2.2
              clear pf pg
              clear hb2
              go_wp2
              go_roundw
              case rel => exact ⟨k + 1, a3, by omega, by go_num, by rw [C.out] <;> go_num, Lib.hid (by rw [HWL.out, HWF.out]; exact (ov3_blk K2.out).alloc _), Lib.hid ((ov3_below B2.out HZ.out).alloc (ov3_below B2.out HZ.out).size _), E'⟩
              case measure => simp [intOf]; omega
            · by_cases hu : u1 = 1
              · subst hu
                have C := Lib.hid (C1.out rfl)
                rw [if_pos rfl] at C
                go_wp2_with fail
                refine (HT2.out _).mono ?_
                rintro e w2 ⟨rfl, hb2⟩
                have B2 := Lib.hid (B.out.trans (hb2.mono B.out.size))
                have K2 := Lib.hid (BK.out.below hb2 BK.out.lt)
                have B3 := Lib.hid (B2.out.alloc B2.out.size (.cells #[.int .i64 1, .int .i64 a2, .int .i64 a3] 76))
                have K3 := Lib.hid (K2.out.alloc (.cells #[.int .i64 1, .int .i64 a2, .int .i64 a3] 76))
                have d0 := (triple K3.out).1
                have d1 := (triple K3.out).2.1
                have e0 := (triple (Blk.new w2 76 #[.int .i64 1, .int .i64 a2, .int .i64 a3])).1
                have e1 := (triple (Blk.new w2 76 #[.int .i64 1, .int .i64 a2, .int .i64 a3])).2.1
                have e2 := (triple (Blk.new w2 76 #[.int .i64 1, .int .i64 a2, .int .i64 a3])).2.2
                have f0 := K3.out.frozen 0
                have f1 := K3.out.frozen 1
                have f2 := K3.out.frozen 2
                have d2 := (triple K3.out).2.2
                have hsz : W1.heap.size < w2.heap.size := K2.out.lt
                obtain ⟨i0, i1, i2⟩ := triple K2.out
                have j0 := K2.out.frozen 0
                have pf := fun A B => put_facts K3.out A B
                have pg := fun A B => put_facts K2.out A B
                have p1 := fun A => (pf A undef).1
                have p2 := fun A => (pf A undef).2.1
                have p3 := fun A B => (pf A B).2.2.1
                have p4 := fun A B => (pf A B).2.2.2
                have r1 := fun A => (pg A undef).1
                have r2 := fun A => (pg A undef).2.1
                have r3 := fun A B => (pg A B).2.2.1
                have r4 := fun A B => (pg A B).2.2.2
                clear pf pg
                clear hb2
                go_wp2
                go_roundw
                case rel => exact ⟨k + 1, a3, by omega, by go_num, by rw [C.out] <;> go_num, Lib.hid (by rw [HWL.out, HWF.out]; exact (ov3_blk K2.out).alloc _), Lib.hid ((ov3_below B2.out HZ.out).alloc (ov3_below B2.out HZ.out).size _), E'⟩
                case measure => simp [intOf]; omega
              · have C := Lib.hid (C1.out rfl)
                rw [if_neg hu] at C
                have t1 : ((u1 : Int) != 1) = true := by simp [hu]
                go_wp2_with fail
                refine (HT2.out _).mono ?_
                rintro e w2 ⟨rfl, hb2⟩
                have B2 := Lib.hid (B.out.trans (hb2.mono B.out.size))
                have K2 := Lib.hid (BK.out.below hb2 BK.out.lt)
                have B3 := Lib.hid (B2.out.alloc B2.out.size (.cells #[.int .i64 1, .int .i64 a2, .int .i64 a3] 76))
                have K3 := Lib.hid (K2.out.alloc (.cells #[.int .i64 1, .int .i64 a2, .int .i64 a3] 76))
                have d0 := (triple K3.out).1
                have d1 := (triple K3.out).2.1
                have e0 := (triple (Blk.new w2 76 #[.int .i64 1, .int .i64 a2, .int .i64 a3])).1
                have e1 := (triple (Blk.new w2 76 #[.int .i64 1, .int .i64 a2, .int .i64 a3])).2.1
                have e2 := (triple (Blk.new w2 76 #[.int .i64 1, .int .i64 a2, .int .i64 a3])).2.2
                have f0 := K3.out.frozen 0
                have f1 := K3.out.frozen 1
                have f2 := K3.out.frozen 2
                have d2 := (triple K3.out).2.2
                have hsz : W1.heap.size < w2.heap.size := K2.out.lt
                obtain ⟨i0, i1, i2⟩ := triple K2.out
                have j0 := K2.out.frozen 0
                have pf := fun A B => put_facts K3.out A B
                have pg := fun A B => put_facts K2.out A B
                have p1 := fun A => (pf A undef).1
                have p2 := fun A => (pf A undef).2.1
                have p3 := fun A B => (pf A B).2.2.1
                have p4 := fun A B => (pf A B).2.2.2
                have r1 := fun A => (pg A undef).1
                have r2 := fun A => (pg A undef).2.1
                have r3 := fun A B => (pg A B).2.2.1
                have r4 := fun A B => (pg A B).2.2.2
                clear pf pg
                clear hb2
                go_wp2
                go_roundw
                case rel => exact ⟨k + 1, a3, by omega, by go_num, by rw [C.out] <;> go_num, Lib.hid (by rw [HWL.out, HWF.out]; exact (ov3_blk K2.out).alloc _), Lib.hid ((ov3_below B2.out HZ.out).alloc (ov3_below B2.out HZ.out).size _), E'⟩
                case measure => simp [intOf]; omega
            · by_cases hu : u1 = 2
              · subst hu
                by_cases hv : u2 = a2
                · subst hv
                  have C := Lib.hid (C2.out rfl)
                  rw [if_pos rfl, if_pos ⟨rfl, rfl⟩] at C
                  go_wp2_with fail
                  refine (HT2.out _).mono ?_
                  rintro e w2 ⟨rfl, hb2⟩
                  have B2 := Lib.hid (B.out.trans (hb2.mono B.out.size))
                  have K2 := Lib.hid (BK.out.below hb2 BK.out.lt)
                  have B3 := Lib.hid (B2.out.alloc B2.out.size (.cells #[.int .i64 2, .int .i64 u2, .int .i64 a3] 76))
                  have K3 := Lib.hid (K2.out.alloc (.cells #[.int .i64 2, .int .i64 u2, .int .i64 a3] 76))
                  have d0 := (triple K3.out).1
                  have d1 := (triple K3.out).2.1
                  have e0 := (triple (Blk.new w2 76 #[.int .i64 2, .int .i64 u2, .int .i64 a3])).1
                  have e1 := (triple (Blk.new w2 76 #[.int .i64 2, .int .i64 u2, .int .i64 a3])).2.1
                  have e2 := (triple (Blk.new w2 76 #[.int .i64 2, .int .i64 u2, .int .i64 a3])).2.2
                  have f0 := K3.out.frozen 0
                  have f1 := K3.out.frozen 1
                  have f2 := K3.out.frozen 2
                  have d2 := (triple K3.out).2.2
                  have hsz : W1.heap.size < w2.heap.size := K2.out.lt
                  obtain ⟨i0, i1, i2⟩ := triple K2.out
                  have j0 := K2.out.frozen 0
                  have pf := fun A B => put_facts K3.out A B
                  have pg := fun A B => put_facts K2.out A B
                  have p1 := fun A => (pf A undef).1
                  have p2 := fun A => (pf A undef).2.1
                  have p3 := fun A B => (pf A B).2.2.1
                  have p4 := fun A B => (pf A B).2.2.2
                  have r1 := fun A => (pg A undef).1
                  have r2 := fun A => (pg A undef).2.1
                  have r3 := fun A B => (pg A B).2.2.1
                  have r4 := fun A B => (pg A B).2.2.2
                  clear pf pg
                  clear hb2
                  go_wp2
                  go_roundw
                  case rel => exact ⟨k + 1, a3, by omega, by go_num, by rw [C.out] <;> go_num, Lib.hid (by rw [HWL.out, HWF.out]; exact (ov3_blk K2.out).alloc _), Lib.hid ((ov3_below B2.out HZ.out).alloc (ov3_below B2.out HZ.out).size _), E'⟩
                  case measure => simp [intOf]; omega
                · have C := Lib.hid (C2.out rfl)
                  rw [if_pos rfl, if_neg (fun g => hv g.2)] at C
                  have t1 : ((u2 : Int) != a2) = true := by simp [hv]
                  go_wp2_with fail
                  refine (HT2.out _).mono ?_
                  rintro e w2 ⟨rfl, hb2⟩
                  have B2 := Lib.hid (B.out.trans (hb2.mono B.out.size))
                  have K2 := Lib.hid (BK.out.below hb2 BK.out.lt)
                  have B3 := Lib.hid (B2.out.alloc B2.out.size (.cells #[.int .i64 2, .int .i64 a2, .int .i64 a3] 76))
                  have K3 := Lib.hid (K2.out.alloc (.cells #[.int .i64 2, .int .i64 a2, .int .i64 a3] 76))
                  have d0 := (triple K3.out).1
                  have d1 := (triple K3.out).2.1
                  have e0 := (triple (Blk.new w2 76 #[.int .i64 2, .int .i64 a2, .int .i64 a3])).1
                  have e1 := (triple (Blk.new w2 76 #[.int .i64 2, .int .i64 a2, .int .i64 a3])).2.1
                  have e2 := (triple (Blk.new w2 76 #[.int .i64 2, .int .i64 a2, .int .i64 a3])).2.2
                  have f0 := K3.out.frozen 0
                  have f1 := K3.out.frozen 1
                  have f2 := K3.out.frozen 2
                  have d2 := (triple K3.out).2.2
                  have hsz : W1.heap.size < w2.heap.size := K2.out.lt
                  obtain ⟨i0, i1, i2⟩ := triple K2.out
                  have j0 := K2.out.frozen 0
                  have pf := fun A B => put_facts K3.out A B
                  have pg := fun A B => put_facts K2.out A B
                  have p1 := fun A => (pf A undef).1
                  have p2 := fun A => (pf A undef).2.1
                  have p3 := fun A B => (pf A B).2.2.1
                  have p4 := fun A B => (pf A B).2.2.2
                  have r1 := fun A => (pg A undef).1
                  have r2 := fun A => (pg A undef).2.1
                  have r3 := fun A B => (pg A B).2.2.1
                  have r4 := fun A B => (pg A B).2.2.2
                  clear pf pg
                  clear hb2
                  go_wp2
                  go_roundw
                  case rel => exact ⟨k + 1, a3, by omega, by go_num, by rw [C.out] <;> go_num, Lib.hid (by rw [HWL.out, HWF.out]; exact (ov3_blk K2.out).alloc _), Lib.hid ((ov3_below B2.out HZ.out).alloc (ov3_below B2.out HZ.out).size _), E'⟩
                  case measure => simp [intOf]; omega
              · have C := Lib.hid (C2.out rfl)
                rw [if_neg hu, if_neg (fun g => hu g.1)] at C
                have t1 : ((u1 : Int) != 2) = true := by simp [hu]
                go_wp2_with fail
                refine (HT2.out _).mono ?_
                rintro e w2 ⟨rfl, hb2⟩
                have B2 := Lib.hid (B.out.trans (hb2.mono B.out.size))
                have K2 := Lib.hid (BK.out.below hb2 BK.out.lt)
                have B3 := Lib.hid (B2.out.alloc B2.out.size (.cells #[.int .i64 2, .int .i64 a2, .int .i64 a3] 76))
                have K3 := Lib.hid (K2.out.alloc (.cells #[.int .i64 2, .int .i64 a2, .int .i64 a3] 76))
                have d0 := (triple K3.out).1
                have d1 := (triple K3.out).2.1
                have e0 := (triple (Blk.new w2 76 #[.int .i64 2, .int .i64 a2, .int .i64 a3])).1
                have e1 := (triple (Blk.new w2 76 #[.int .i64 2, .int .i64 a2, .int .i64 a3])).2.1
                have e2 := (triple (Blk.new w2 76 #[.int .i64 2, .int .i64 a2, .int .i64 a3])).2.2
                have f0 := K3.out.frozen 0
                have f1 := K3.out.frozen 1
                have f2 := K3.out.frozen 2
                have d2 := (triple K3.out).2.2
                have hsz : W1.heap.size < w2.heap.size := K2.out.lt
                obtain ⟨i0, i1, i2⟩ := triple K2.out
                have j0 := K2.out.frozen 0
                have pf := fun A B => put_facts K3.out A B
                have pg := fun A B => put_facts K2.out A B
                have p1 := fun A => (pf A undef).1
                have p2 := fun A => (pf A undef).2.1
                have p3 := fun A B => (pf A B).2.2.1
                have p4 := fun A B => (pf A B).2.2.2
                have r1 := fun A => (pg A undef).1
                have r2 := fun A => (pg A undef).2.1
                have r3 := fun A B => (pg A B).2.2.1
                have r4 := fun A B => (pg A B).2.2.2
                clear pf pg
                clear hb2
                go_wp2
                go_roundw
                case rel => exact ⟨k + 1, a3, by omega, by go_num, by rw [C.out] <;> go_num, Lib.hid (by rw [HWL.out, HWF.out]; exact (ov3_blk K2.out).alloc _), Lib.hid ((ov3_below B2.out HZ.out).alloc (ov3_below B2.out HZ.out).size _), E'⟩
                case measure => simp [intOf]; omega
          · have HE : Hid (fE s l = 52 ∧ fN s l = 0 ∧ toE s x = 52) := Lib.hid (by
              have hm : x ∈ l := by rw [← hx]; exact getD_mem hkl
              have hb : ¬ ∀ n ∈ l, toE s n = 0 := fun g => he (g x hm)
              refine ⟨fE_bad H.out hb, fN_bad H.out hb, ?_⟩
              unfold toE at he ⊢
              rw [if_pos H.out.1] at he ⊢
              split at he <;> simp_all)
            rw [HE.out.2.2] at HT2
            generalize tl s x = a1 at HT2
            generalize tf s x = a2 at HT2
            generalize tc s x = a3 at HT2
            clear he hx hkl
            go_wp2_with fail
            refine (HT2.out _).mono ?_
            rintro e w2 ⟨rfl, hb2⟩
            have B2 := Lib.hid (B.out.trans (hb2.mono B.out.size))
            clear hb2
            go_wp2
            go_ret2
            exact ⟨by rw [HE.out.1, HE.out.2.1]; rfl, B2.out.alloc B2.out.size _⟩
        · have hkn : k = n := by omega
          subst hkn
          have hT : l.take k = l := List.take_of_length_le (by have := HL.out; omega)
          have HO : Hid (fE s l = 0 ∧ fN s l = ct s l k) := Lib.hid (by
            have hE := E.out
            rw [hT] at hE
            exact ⟨fE_ok H.out hE, by rw [fN_ok H.out hE]; unfold ct; rw [hT]⟩)
          have hcb := ct_bound s l k
          generalize ct s l k = q at HO hcb
          clear hT
          go_wp2
          go_ret2
          exact ⟨by rw [HO.out.1, HO.out.2]; rfl, B.out⟩


theorem ris_bad {l : List Int} (h : ¬ ris l) : ∃ k, k + 1 < l.length ∧ l.getD (k + 1) 0 ≤ l.getD k 0 := by
  by_cases g : ∃ k, k + 1 < l.length ∧ l.getD (k + 1) 0 ≤ l.getD k 0
  · exact g
  · exact absurd (fun i hi => by
      by_cases e : l.getD i 0 < l.getD (i + 1) 0
      · exact e
      · exact absurd ⟨i, by omega, by omega⟩ g) h

set_option maxRecDepth 100000 in
set_option maxHeartbeats 2000000 in
theorem reffile_no (s : Int) (l : List Int) (a : Option Addr) (c n : Nat) (w : World) (ha : Ri w a l) (hl : l.length = n) (h : ¬ (Sz s ∧ ris l)) :
    Calls Try.prog 25 #[.int .i64 s, .slice a n c] w fun e w' => e = .returned (.tuple #[.int .i64 0, .int .i64 1]) ∧ Below w.heap.size w w' := by
  by_cases hs : Sz s
  · have hr : ¬ ris l := fun g => h ⟨hs, g⟩
    have HS := Lib.hid (fun w => irefsized_yes s w hs)
    have hm1 := ha.2.1
    unfold maxLen at hm1
    have n1 : n ≤ 9223372036854775807 := by omega
    have HA := Lib.hid ha
    have HL := Lib.hid hl
    have HR := Lib.hid hr
    clear ha hl h hs hr hm1
    go_enter Try.func25, Try.ntmps25
    go_wp2_with fail
    refine (HS.out _).mono ?_
    rintro e w' ⟨rfl, rfl⟩
    go_wp2_with fail
    go_loopw [6] (fun i wr => ∃ k : Nat, (k ≤ n ∨ k = 1) ∧ 1 ≤ k ∧ i = .int .i64 k ∧ Hid (Below w.heap.size w wr) ∧ Hid (∀ i, i + 1 < k → l.getD i 0 < l.getD (i + 1) 0)) (fun i _ => n - (intOf i).toNat)
    case atStart => exact ⟨1, by omega, by omega, rfl, Lib.hid (Below.refl _ _), Lib.hid (fun i hi => by omega)⟩
    case round =>
      obtain ⟨k, hk, hk1, rfl, hbel, hE⟩ := hrel
      by_cases hlt : k < n
      · have hkl : k < l.length := by have := HL.out; omega
        obtain ⟨b1, o1, rfl, h1⟩ := (HA.out.below hbel.out).at hkl
        obtain ⟨b2, o2, e2, h2⟩ := (HA.out.below hbel.out).at (j := k - 1) (by omega)
        injection e2 with e2
        injection e2 with e3 e4
        subst e3 e4
        have HY : Hid (l.getD (k - 1) 0 < l.getD k 0 → ∀ i, i + 1 < k + 1 → l.getD i 0 < l.getD (i + 1) 0) := Lib.hid (fun g i hi => by
          by_cases e : i + 1 < k
          · exact hE.out i e
          · have e : i = k - 1 := by omega
            subst e
            rwa [show k - 1 + 1 = k by omega])
        generalize l.getD k 0 = x at h1 HY
        generalize l.getD (k - 1) 0 = y at h2 HY
        have e1 := fun mm : Later wr => latercell mm h1
        have e2 := fun mm : Later wr => latercell mm h2
        have kl : (k : Int) < (n : Int) := by omega
        have k0 : (0 : Int) ≤ (k : Int) - 1 := by omega
        have kl' : (k : Int) - 1 < (n : Int) := by omega
        have kt : ((k : Int) - 1).toNat = k - 1 := by omega
        clear h1 h2 hkl
        by_cases hxy : y < x
        · have HY' := Lib.hid (HY.out hxy)
          have t : ¬ x ≤ y := by omega
          clear HY hxy
          go_wp2_with fail
          refine wp_region_later (by kernel_rfl) (by kernel_rfl) ?_
          repeat (go_big_quiet_step (fail))
          refine wpQuiet_nil ?_
          rintro _ ⟨mm, rfl⟩
          go_wp2
          go_roundw
          case rel => exact ⟨k + 1, by omega, by omega, by go_num, Lib.hid (hbel.out.trans (mm.bel.mono hbel.out.size)), HY'⟩
          case measure => simp [intOf]; omega
        · have t : x ≤ y := by omega
          clear HY hxy
          go_wp2_with fail
          refine wp_region_later (by kernel_rfl) (by kernel_rfl) ?_
          repeat (go_big_quiet_step (fail))
          refine wpQuiet_nil ?_
          rintro _ ⟨mm, rfl⟩
          go_wp2
          go_ret2
          exact ⟨rfl, hbel.out.trans (mm.bel.mono hbel.out.size)⟩
      · exact absurd (ris_upto (fun i hi => hE.out i (by have := HL.out; omega))) HR.out
  · have HS := Lib.hid (fun w => irefsized_no s w hs)
    clear h hs ha hl
    go_enter Try.func25, Try.ntmps25
    go_wp2_with fail
    refine (HS.out _).mono ?_
    rintro e w' ⟨rfl, rfl⟩
    go_wp2
    go_ret2
    exact ⟨rfl, Below.refl _ _⟩

theorem reffile_any (s : Int) (l : List Int) (a : Option Addr) (c n : Nat) (w : World) (ha : Ri w a l) (hl : l.length = n) (hn : n ≤ 100000) :
    Calls Try.prog 25 #[.int .i64 s, .slice a n c] w fun e w' => e = .returned (.tuple #[.int .i64 (fN s l), .int .i64 (fE s l)]) ∧ Below w.heap.size w w' := by
  by_cases h : Sz s ∧ ris l
  · exact reffile_yes s l a c n w ha hl h hn
  · rw [fE_no h, fN_no h]; exact reffile_no s l a c n w ha hl h

end Go.Proofs.Ytladgfonkolpmaa
