/-
  The translation programs a page where nothing fails. Nothing of one statement alone stands here.
-/
import Derived.Test.YtbfifppdcmimaaaGreatKO
import Derived.Test.YtbfifppdcmimaaaGreatFtThere
import Derived.Test.YtbfifppdcmimaaaGreatKA
import Derived.Test.YtbfifppdcmimaaaGreatKI
import Derived.WalkMore
namespace Go.Proofs.YtbfifppdcmimaaaGreat
open Go.RowKit Crcm Gcm Go.ChangeShapes

set_option maxRecDepth 100000 in
set_option maxHeartbeats 4000000 in
theorem fprogram_ok {w : World} {X : Nat → Prop} {M : Nat} {m : Mg} {o : Own} {c : Ch} (h : MgAt w M m) (hc : ChAt w X o c) (hp : m.cp = o.p) (hn : m.l.length = c.nb) (hXg : X m.g) (hoM : ¬ o.F c.nb M) (hog : ¬ o.F c.nb m.g)
    {F : Nat} (hF : w.cell? ⟨F, 1, none⟩ = some (.pointer (some ⟨M, 0, none⟩)))
    (a : Option Addr) (n cap : Nat) (l : List Int) (hr : RwX w X a l) (hl : l.length = n) (k i : Int) (l2 : List Bk) (c2 : Ch) (hR : prgT l m.l c = ((k, i, 0), l2, c2)) (hn2 : c2.nb = c.nb) :
    Calls Tryz.prog 69 #[.pointer (some ⟨F, 0, none⟩), .slice a n cap] w fun e w' => e = .returned (.tuple #[pv (k, i), .int .i64 0]) ∧
      MgAt w' M { m with l := l2 } ∧ ChAt w' X o c2 ∧ Kp (Fm o c.nb m.g) w w' := by
  obtain ⟨N, hN⟩ : ∃ N, w.heap.size = N := ⟨_, rfl⟩
  obtain ⟨W1, hW1⟩ : ∃ W1, w.alloc (.cells #[.int .i64 0, .int .i64 0] 47) = W1 := ⟨_, rfl⟩
  have hB1 : Below w.heap.size w W1 := hW1 ▸ (Below.refl w.heap.size w).alloc (Nat.le_refl _) _
  have hBk : Blk W1 N 47 #[.int .i64 0, .int .i64 0] := by rw [← hW1, ← hN]; exact heap_alloc_new w _
  have hs1 : N < W1.heap.size := hBk.lt
  have hMl : M < N := hN ▸ h.blk.lt
  have hgl : m.g < N := hN ▸ h.own.lt
  have hFo : ∀ b, o.F c.nb b → X b ∧ b < N := fun b hb => ⟨hc.inX b hb, hN ▸ hc.old b (hc.inX b hb)⟩
  have hXl : ∀ b, X b → b < N := fun b hb => hN ▸ hc.old b hb
  have hc1 : ChAt W1 (fun b => X b ∨ b = N) o c := hc.widen hB1 (fun b hb => hb.imp id (fun e => by omega)) (fun b hb => by
    rcases hb with hb | rfl
    · have := hXl b hb; omega
    · exact hs1) (fun b hb => .inl hb)
  have hr1 : RwX W1 (fun b => X b ∨ b = N) a l := hr.widen hB1 (fun b hb => hb.imp id (fun e => by omega))
  have HP := Lib.hid (bprogram_any (h.below hB1) hc1 hp hn (.inl hXg) hoM hog a n cap l hr1 hl)
  have hF1 : W1.cell? ⟨F, 1, none⟩ = some (.pointer (some ⟨M, 0, none⟩)) := (⟨W1, hB1⟩ : Later w).cell hF
  rw [hR] at HP
  have HB := Lib.hid hBk
  have HB1 := Lib.hid hB1
  have HFo := Lib.hid hFo
  have HNe : Hid (M < N ∧ m.g < N) := Lib.hid ⟨hMl, hgl⟩
  have HN2 := Lib.hid hn2
  have HW1 := Lib.hid hW1
  clear h hc hp hn hXg hoM hog hr hl hR hF hc1 hr1 hB1 hBk hs1 hMl hgl hFo hXl hn2
  go_enter Tryz.func69, Tryz.ntmps69
  go_wp2_with fail
  refine wp_loop_once ?_
  go_wp2_with fail
  refine HP.out.mono ?_
  rintro e w1 ⟨rfl, h1, h2, h3⟩
  have hb1 : Blk w1 N 47 #[.int .i64 0, .int .i64 0] := HB.out.kp h3 (fun q => by
    rcases q with q | q
    · have := (HFo.out N q).2; omega
    · have := HNe.out.2; have e2 : N = m.g := q; omega)
  have g0 := hb1.cell 0
  have g1 := hb1.cell 1
  have z0 := hb1.frozen 0
  have z1 := hb1.frozen 1
  have hb2 : w1.heap[N]? = some (.cells #[.int .i64 0, .int .i64 0] 47) := hb1
  have hK : Kp (fun b => b = N) w1 ((w1.setCell ⟨N, 0, none⟩ (.int .i64 k)).setCell ⟨N, 1, none⟩ (.int .i64 i)) := (Kp.one w1 ⟨N, 0, none⟩ (.int .i64 k)).trans (Kp.one _ ⟨N, 1, none⟩ (.int .i64 i))
  have HQ : Hid (Blk ((w1.setCell ⟨N, 0, none⟩ (.int .i64 k)).setCell ⟨N, 1, none⟩ (.int .i64 i)) N 47 #[.int .i64 k, .int .i64 i]) := Lib.hid (by
    have := (hb1.put 0 (.int .i64 k)).put 1 (.int .i64 i)
    simpa using this)
  have HEnd : Hid (MgAt ((w1.setCell ⟨N, 0, none⟩ (.int .i64 k)).setCell ⟨N, 1, none⟩ (.int .i64 i)) M { m with l := l2 } ∧ ChAt ((w1.setCell ⟨N, 0, none⟩ (.int .i64 k)).setCell ⟨N, 1, none⟩ (.int .i64 i)) X o c2 ∧
      Kp (Fm o c.nb m.g) w ((w1.setCell ⟨N, 0, none⟩ (.int .i64 k)).setCell ⟨N, 1, none⟩ (.int .i64 i))) := Lib.hid ⟨
    h1.kp hK (fun e => by have e2 : M = N := e; have := HNe.out.1; omega) (fun e => by have e2 : m.g = N := e; have := HNe.out.2; omega),
    (h2.kp hK (fun b e => .inr e) (fun b hb e => by have := (HFo.out b (HN2.out ▸ hb)).2; have e2 : b = N := e; omega)).narrow (fun b hb => .inl hb) (fun b hb => (HFo.out b (HN2.out ▸ hb)).1),
    ((((Kp.of_below HB1.out).trans h3).setCell (p := ⟨N, 0, none⟩) (.inr (Nat.le_of_eq hN)) _).setCell (p := ⟨N, 1, none⟩) (.inr (Nat.le_of_eq hN)) _)⟩
  clear h1 h2 h3 HP hF1 hb1 hW1 hK
  go_wp2
  have d0 := HQ.out.cell 0
  have d1 := HQ.out.cell 1
  exact bodyPost_ret (v := .tuple #[pv (k, i), .int .i64 0]) (by simp [results, Tryz.results69, go_sem, pv, d0, d1]) rfl ⟨rfl, HEnd.out⟩
end Go.Proofs.YtbfifppdcmimaaaGreat
