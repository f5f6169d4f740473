/-
  A manager opened by a setup, and the document's: the same answer. Nothing of one statement alone stands here.
-/
import Derived.Test.YtjjggmopkfkpaaaGreatLC
import Derived.Test.YtjjggmopkfkpaaaGreatLB
import Derived.Test.YtjjggmopkfkpaaaGreatLA
import Derived.Test.YtjjggmopkfkpaaaGreatKR
import Derived.Test.YtjjggmopkfkpaaaGreatKL
import Derived.Test.YtjjggmopkfkpaaaGreatLD
import Derived.Test.YtjjggmopkfkpaaaGreatLF
import Derived.Test.YtjjggmopkfkpaaaGreatKW
import Derived.Test.YtjjggmopkfkpaaaGreatKG
import Derived.Deep.RegionHeld3
namespace Go.Proofs.YtjjggmopkfkpaaaGreat
open Go.RowKit Crcm Gcm Go.ChangeShapes

/-- a setup that is opened -/
def OkS (nb np : Nat) (s : Su) : Prop := (s.fr.length = nb ∧ s.lv.length = nb) ∧ (0 ≤ s.res ∧ 0 ≤ s.first) ∧ ∀ j, j < nb → okB np s.fr[j]! s.lv[j]! = true

theorem SuAt.rows {w : World} {s : Su} {a : Sa} (h : SuAt w s a) {nb : Nat} (hn : 0 < nb) (h1 : s.fr.length = nb) (h2 : s.lv.length = nb) :
    ∃ fb fo lb lo, a.ar = some ⟨fb, fo, none⟩ ∧ a.al = some ⟨lb, lo, none⟩ ∧ (∀ j, j < nb → w.cell? ⟨fb, fo + j, none⟩ = some (.bool s.fr[j]!)) ∧ ∀ j, j < nb → w.cell? ⟨lb, lo + j, none⟩ = some (.int .i64 s.lv[j]!) := by
  rcases h.fr with h3 | ⟨fb, fo, e3, h3⟩
  · rw [h3] at h1; simp at h1; omega
  rcases h.lv.2 with h4 | ⟨lb, lo, e4, h4⟩
  · rw [h4] at h2; simp at h2; omega
  refine ⟨fb, fo, lb, lo, e3, e4, fun j hj => h3 j (by omega), fun j hj => ?_⟩
  rw [h4 j (by omega), getElem!_pos s.lv j (by omega)]

theorem least_bad {p : Nat → Bool} : ∀ {n : Nat}, ¬ (∀ j, j < n → p j = true) → ∃ q, q < n ∧ p q = false ∧ ∀ j, j < q → p j = true := by
  intro n
  induction n with
  | zero => intro h; exact absurd (fun j hj => absurd hj (Nat.not_lt_zero _)) h
  | succ n ih =>
    intro h
    by_cases h2 : ∀ j, j < n → p j = true
    · refine ⟨n, Nat.lt_succ_self _, ?_, h2⟩
      cases hp : p n
      · rfl
      · exact absurd (fun j hj => by
          rcases Nat.lt_or_ge j n with h3 | h3
          · exact h2 j h3
          · rw [show j = n by omega]; exact hp) h
    · obtain ⟨q, h3, h4, h5⟩ := ih h2
      exact ⟨q, Nat.lt_succ_of_lt h3, h4, h5⟩

theorem okB_frlv {w : World} {nb np : Nat} {f : Nat → Bool} {lv : Nat → Int} {fb fo lb lo : Nat} (h1 : ∀ j, j < nb → w.cell? ⟨fb, fo + j, none⟩ = some (.bool (f j))) (h2 : ∀ j, j < nb → w.cell? ⟨lb, lo + j, none⟩ = some (.int .i64 (lv j))) (h3 : ∀ j, j < nb → okB np (f j) (lv j) = true) : FrLv w nb np f lv fb fo lb lo := by
  refine ⟨h1, h2, fun j hj => ?_⟩
  have := h3 j hj
  unfold okB at this
  simp only [Bool.and_eq_true, decide_eq_true_eq, Bool.not_eq_true', Bool.and_eq_false_iff] at this
  obtain ⟨⟨g1, g2⟩, g3⟩ := this
  refine ⟨g1, g2, fun hf => ?_⟩
  rcases g3 with g3 | g3
  · rw [hf] at g3; cases g3
  · have := of_decide_eq_false g3; omega

/-- what the program's opening comes to -/
def SoP (w : World) (o : Own) (c : Ch) (s : Su) (e : Ending) (w' : World) : Prop :=
  ((¬ OkS c.nb c.np s ∧ e = .returned (.tuple #[.pointer none, .int .i64 1])) ∨
   (OkS c.nb c.np s ∧ ∃ M m, e = .returned (.tuple #[.pointer (some ⟨M, 0, none⟩), .int .i64 0]) ∧ MgAt w' M m ∧ (m.cp = o.p ∧ m.l = rows c.bad (fun j => s.fr[j]!) (fun j => s.lv[j]!) c.nb ∧ m.r = s.res ∧ m.b = s.first) ∧ w.heap.size ≤ M ∧ w.heap.size ≤ m.g)) ∧ Below w.heap.size w w'

theorem sopen_any {w : World} {X : Nat → Prop} {o : Own} {c : Ch} (hc : ChAt w X o c) (hu : c.up = true) (hwr : ∀ k, k < c.nb → I64 (c.wear k)) (s : Su) (a : Sa) (hs : SuAt w s a) :
    Calls Tryz.prog 18 #[o.p, .slice a.ar s.fr.length a.cr, .slice a.al s.lv.length a.cl, .int .i64 s.res, .int .i64 s.first] w (SoP w o c s) := by
  have hnb : c.nb < 129 := hc.good.2.1
  have hn0 : 7 < c.nb := hc.good.1
  by_cases hl : s.fr.length = c.nb ∧ s.lv.length = c.nb
  case neg =>
    refine (bopen_arg hc hu a.ar a.al s.fr.length a.cr s.lv.length a.cl s.res s.first false (fun W _ => openable_len c.nb c.np c.sz a.ar a.al s.fr.length a.cr s.lv.length a.cl W (by omega)) (.inl rfl)).mono ?_
    rintro e w' ⟨rfl, hb⟩
    exact ⟨.inl ⟨fun h => hl h.1, rfl⟩, hb⟩
  obtain ⟨hl1, hl2⟩ := hl
  obtain ⟨fb, fo, lb, lo, e1, e2, g1, g2⟩ := hs.rows (by omega) hl1 hl2
  rw [e1, e2, hl1, hl2]
  by_cases hk : ∀ j, j < c.nb → okB c.np s.fr[j]! s.lv[j]! = true
  case neg =>
    obtain ⟨q, q1, q2, q3⟩ := least_bad hk
    refine (bopen_arg hc hu _ _ c.nb a.cr c.nb a.cl s.res s.first false (fun W hW => openable_bad c.nb c.np c.sz hnb (fun j => s.fr[j]!) (fun j => s.lv[j]!) fb fo a.cr lb lo a.cl W (fun j hj => (hW.cell (block_lt_of_cell (g1 j hj))).trans (g1 j hj)) (fun j hj => (hW.cell (block_lt_of_cell (g2 j hj))).trans (g2 j hj)) q q1 q2 q3) (.inl rfl)).mono ?_
    rintro e w' ⟨rfl, hb⟩
    exact ⟨.inl ⟨fun h => hk h.2.2, rfl⟩, hb⟩
  have hF := okB_frlv g1 g2 hk
  by_cases hr : 0 ≤ s.res ∧ 0 ≤ s.first
  case neg =>
    refine (bopen_arg hc hu _ _ c.nb a.cr c.nb a.cl s.res s.first true (fun W hW => openable_yes c.nb c.np c.sz hnb (fun j => s.fr[j]!) (fun j => s.lv[j]!) fb fo a.cr lb lo a.cl W (hF.below hW)) (.inr (by omega))).mono ?_
    rintro e w' ⟨rfl, hb⟩
    exact ⟨.inl ⟨fun h => hr h.2.1, rfl⟩, hb⟩
  refine (bopen_yes hc hu (fun j => s.fr[j]!) (fun j => s.lv[j]!) fb fo a.cr lb lo a.cl hF hwr s.res s.first hr.1 hr.2).mono ?_
  rintro e w' ⟨M, m, rfl, hm, ⟨m1, m2, m3, m4⟩, -, hM, hg, hb⟩
  exact ⟨.inr ⟨⟨⟨hl1, hl2⟩, hr, hk⟩, M, m, rfl, hm, ⟨m1, m2, m3, m4⟩, hM, hg⟩, hb⟩

/-- what the document's opening comes to -/
def SorP (w : World) (X : Nat → Prop) (o : Rb) (nb np sz : Nat) (s : Su) (e : Ending) (w' : World) : Prop :=
  ((¬ OkS nb np s ∧ e = .returned (.tuple #[.pointer none, .int .i64 1])) ∨
   (OkS nb np s ∧ ∃ q : Rq, e = .returned (.tuple #[.pointer (some ⟨q.d, 0, none⟩), .int .i64 0]) ∧ RmAt w' (fun b => X b ∨ q.F b) o q nb np sz false ∧ ∀ b, q.F b → w.heap.size ≤ b)) ∧ Below w.heap.size w w'

theorem sropen_any {w : World} {X : Nat → Prop} {o : Rb} {nb np sz : Nat} (h : RcAt w X o nb np sz false) (s : Su) (a : Sa) (hs : SuAt w s a) :
    Calls Tryz.prog 26 #[.pointer (some ⟨o.g, 0, none⟩), .slice a.ar s.fr.length a.cr, .slice a.al s.lv.length a.cl, .int .i64 s.res, .int .i64 s.first] w (SorP w X o nb np sz s) := by
  have hnb : nb < 129 := h.good.2.1
  have hn0 : 7 < nb := h.good.1
  by_cases hl : (s.fr.length = nb ∧ s.lv.length = nb) ∧ (0 ≤ s.res ∧ 0 ≤ s.first)
  case neg =>
    refine (rmopen_arg h a.ar a.al s.fr.length a.cr s.lv.length a.cl s.res s.first (by omega)).mono ?_
    rintro e w' ⟨rfl, rfl⟩
    exact ⟨.inl ⟨fun h => hl ⟨h.1, h.2.1⟩, rfl⟩, Below.refl _ _⟩
  obtain ⟨⟨hl1, hl2⟩, hr⟩ := hl
  obtain ⟨fb, fo, lb, lo, e1, e2, g1, g2⟩ := hs.rows (by omega) hl1 hl2
  rw [e1, e2, hl1, hl2]
  refine (rmopen_any h (fun j => s.fr[j]!) (fun j => s.lv[j]!) fb fo a.cr lb lo a.cl g1 g2 s.res s.first hr.1 hr.2).mono ?_
  rintro e w' ⟨⟨rfl, j, hj, hb⟩ | ⟨q, rfl, hk, hm, hq⟩, hbl⟩
  · exact ⟨.inl ⟨fun h => (by have := h.2.2 j hj; rw [this] at hb; cases hb), rfl⟩, hbl⟩
  · exact ⟨.inr ⟨⟨⟨hl1, hl2⟩, hr, hk⟩, q, rfl, hm, hq⟩, hbl⟩
end Go.Proofs.YtjjggmopkfkpaaaGreat

/-
  A manager of a setup, and the document's: the law's call both. Nothing of one statement alone stands here.
-/
namespace Go.Proofs.YtjjggmopkfkpaaaGreat
open Go.RowKit Crcm Gcm Go.ChangeShapes

theorem results_tmp5 {fn : Func} {t u v x y : Tmp} (h : fn.results = #[.tmp t, .tmp u, .tmp v, .tmp x, .tmp y]) (tmps : Array Value) (P : Program) (w : World) :
    (results fn tmps).run P w = .ok (.tuple #[tmps.getD t undef, tmps.getD u undef, tmps.getD v undef, tmps.getD x undef, tmps.getD y undef]) w := by
  simp [results, h]
/-- the same chip but for its faults -/
def Cs (c c' : Ch) : Prop := ∃ fl si, c' = { c with fl := fl, since := si }
theorem Cs.refl (c : Ch) : Cs c c := ⟨c.fl, c.since, rfl⟩
/-- what stands while the faults are set on both chips -/
structure BsS (w0 : World) (X : Nat → Prop) (o : Own) (c : Ch) (r : Rb) (pb : Nat) (cs : Array Value) (w : World) : Prop where
  box : Blk w pb 28 cs
  nx : ¬ X pb
  ch : ∃ c', ChAt w X o c' ∧ Cs c c'
  rm : RcAt w X r c.nb c.np c.sz false
  dis : ∀ b, o.F c.nb b → ¬ r.F b
  kp : Kp X w0 w
theorem BsS.below {w0 w w' : World} {X : Nat → Prop} {o : Own} {c : Ch} {r : Rb} {pb : Nat} {cs : Array Value} (h : BsS w0 X o c r pb cs w) (hb : Below w.heap.size w w') : BsS w0 X o c r pb cs w' := by
  obtain ⟨c1, h1, h2⟩ := h.ch
  exact ⟨h.box.below hb h.box.lt, h.nx, ⟨c1, h1.below hb, h2⟩, h.rm.below hb, h.dis, h.kp.trans (Kp.of_below hb)⟩
section
variable {w0 : World} {X : Nat → Prop} {o : Own} {c : Ch} {r : Rb} {pb : Nat} {cs : Array Value}
theorem bs_own (A : Option Addr) (m cap : Nat) (fl : List Fl) (x : Int) (hx : (x = 0 ∧ ∀ f ∈ fl, 0 ≤ f.at') ∨ (x = 1 ∧ ∃ f ∈ fl, f.at' < 0)) (hf : FlAt w0 X (.slice A m cap) fl) (hn : fl.length = m) (hn2 : m ≤ 20000) (hd : ∀ f ∈ fl, f.data.length ≤ 20000) (w : World) (hS : BsS w0 X o c r pb cs w) :
    Calls Tryz.prog 24 #[o.p, .slice A m cap] w fun e w' => e = .returned (.int .i64 x) ∧ BsS w0 X o c r pb cs w' := by
  obtain ⟨c1, h1, fl1, si1, rfl⟩ := hS.ch
  have hf1 := hf.kp hS.kp (fun _ g => g)
  rcases hx with ⟨rfl, hx⟩ | ⟨rfl, f, hx1, hx2⟩
  · refine (script_yes h1 A m cap fl hf1 hn hn2 hd hx).mono ?_
    rintro e w' ⟨rfl, hc, hk⟩
    exact ⟨rfl, hS.box.kp hk (fun g => hS.nx (h1.inX _ g)), hS.nx, ⟨_, hc, _, _, rfl⟩, hS.rm.kp hk (fun b hb => h1.inX b hb) (fun b hb g => hS.dis b g hb), hS.dis, hS.kp.trans (hk.mono (fun b hb => h1.inX b hb))⟩
  · refine (script_no A m cap fl hf1 hn (fun h => by have := h f hx1; omega) o.bc).mono ?_
    rintro e w' ⟨rfl, hb⟩
    exact ⟨rfl, hS.below hb⟩
theorem bs_ref (A : Option Addr) (m cap : Nat) (fl : List Fl) (x : Int) (hx : (x = 0 ∧ ∀ f ∈ fl, 0 ≤ f.at') ∨ (x = 1 ∧ ∃ f ∈ fl, f.at' < 0)) (hf : FlAt w0 X (.slice A m cap) fl) (w : World) (hS : BsS w0 X o c r pb cs w) :
    Calls Tryz.prog 25 #[.pointer (some ⟨r.g, 0, none⟩), .slice A m cap] w fun e w' => e = .returned (.int .i64 x) ∧ BsS w0 X o c r pb cs w' := by
  obtain ⟨c1, h1, hcs⟩ := hS.ch
  refine (rscript_ex hS.rm A m cap fl (hf.kp hS.kp (fun _ g => g))).mono ?_
  rintro e w' ⟨he, hb', hk⟩
  have hnb : c1.nb = c.nb := by obtain ⟨_, _, rfl⟩ := hcs; rfl
  refine ⟨?_, hS.box.kp hk (fun g => hS.nx (hS.rm.inX _ g)), hS.nx, ⟨c1, h1.kp hk hS.rm.inX (fun b hb g => hS.dis b (by rw [← hnb]; exact hb) g), hcs⟩, hb', hS.dis, hS.kp.trans (hk.mono hS.rm.inX)⟩
  rcases he with ⟨rfl, h3⟩ | ⟨rfl, f, h3, h4⟩
  · rcases hx with ⟨rfl, -⟩ | ⟨rfl, f, hx1, hx2⟩
    · rfl
    · have := h3 f hx1; omega
  · rcases hx with ⟨rfl, hx⟩ | ⟨rfl, -⟩
    · have := hx f h3; omega
    · rfl
end
/-- what both comes to -/
def BoP (w : World) (s : Su) (e : Ending) (w' : World) : Prop :=
  Below w.heap.size w w' ∧ (e = .returned (.tuple #[.pointer none, .pointer none, .pointer none, .bool false, .bool true]) ∨
    ∃ (X : Nat → Prop) (M : Nat) (m : Mg) (o : Own) (c : Ch) (r : Rb) (q : Rq), e = .returned (.tuple #[.pointer (some ⟨M, 0, none⟩), o.p, .pointer (some ⟨q.d, 0, none⟩), .bool true, .bool true]) ∧ Pr w' X M m o c r q ∧ (∀ b, X b → w.heap.size ≤ b) ∧ (∀ b, X b → b < w'.heap.size) ∧
      ((c.nb : Int) = s.x ∧ (c.np : Int) = s.y ∧ (c.sz : Int) = s.z) ∧ OkS c.nb c.np s ∧ Cs (newC c.nb c.np c.sz s.bad) c ∧ m.l = rows c.bad (fun j => s.fr[j]!) (fun j => s.lv[j]!) c.nb ∧ M < w'.heap.size)

set_option maxRecDepth 100000 in
set_option maxHeartbeats 4000000 in
theorem sboth_any (s : Su) (a : Sa) (w : World) (hs : SuAt w s a) (hf : SuFew s) : Calls Tryz.prog 6 #[.agg (suC s a)] w (BoP w s) := by
  have HNo : Hid (∀ w', Below w.heap.size w w' → BoP w s (.returned (.tuple #[.pointer none, .pointer none, .pointer none, .bool false, .bool true])) w') := Lib.hid fun w' hb => ⟨hb, .inl rfl⟩
  obtain ⟨lb, hlb⟩ : ∃ n, s.bad.length = n := ⟨_, rfl⟩
  obtain ⟨lr, hlr⟩ : ∃ n, s.fr.length = n := ⟨_, rfl⟩
  obtain ⟨ll, hll⟩ : ∃ n, s.lv.length = n := ⟨_, rfl⟩
  obtain ⟨lf, hlf⟩ : ∃ n, s.fl.length = n := ⟨_, rfl⟩
  have HOp := Lib.hid (fun W (hb : Below w.heap.size w W) (X : Nat → Prop) (o : Own) (c : Ch) (hc : ChAt W X o c) (hu : c.up = true) (hwr : ∀ k, k < c.nb → I64 (c.wear k)) => sopen_any hc hu hwr s a (hs.below hb))
  have HRo := Lib.hid (fun W (hb : Below w.heap.size w W) (X : Nat → Prop) (o : Rb) (nb np sz : Nat) (hc : RcAt W X o nb np sz false) => sropen_any hc s a (hs.below hb))
  rw [hlr, hll] at HOp HRo
  have HBad := Lib.hid hs.bad
  have HFl := Lib.hid hs.fl
  have HLb := Lib.hid hlb
  have HLf := Lib.hid hlf
  have hB := (Below.refl w.heap.size w).alloc (Nat.le_refl _) (.cells (suC s a) 28)
  have HFew := Lib.hid hf
  have HBk := Lib.hid (Blk.new w 28 (suC s a))
  have HB := Lib.hid hB
  unfold suC at HBk HB ⊢
  rw [hlb, hlr, hll, hlf] at HBk HB ⊢
  rw [hlf] at HFl
  clear hB hs hf hlb hlr hll hlf
  obtain ⟨x, y, z, bad, fl, fr, lv, res, first⟩ := s
  obtain ⟨ab, cb, af, cf, ar, cr, al, cl⟩ := a
  dsimp only at HOp HRo HBad HFl HLb HLf HBk HB ⊢
  by_cases hg : GdI x y z
  case neg =>
    have HNew := Lib.hid (fun w' => gnew_no hg (.slice ab lb cb) w')
    have HRef := Lib.hid (fun w' => rnew_no hg (.slice ab lb cb) w')
    unfold geoV at HNew HRef
    clear hg HOp HRo
    go_enter Tryz.func6, Tryz.ntmps6
    go_upto_region 1 with (fail)
    generalize (w.alloc (.cells #[.int .i64 x, .int .i64 y, .int .i64 z, .slice ab lb cb, .slice af lf cf, .slice ar lr cr, .slice al ll cl, .int .i64 res, .int .i64 first] 28)) = w1 at HB HBk ⊢
    obtain ⟨g, hg⟩ : ∃ g, w.heap.size = g := ⟨_, rfl⟩
    rw [hg] at HBk ⊢
    clear hg
    have q0 : w1.cell? ⟨g, 0, none⟩ = some (.int .i64 x) := HBk.out.cell 0
    have q1 : w1.cell? ⟨g, 1, none⟩ = some (.int .i64 y) := HBk.out.cell 1
    have q2 : w1.cell? ⟨g, 2, none⟩ = some (.int .i64 z) := HBk.out.cell 2
    have q3 : w1.cell? ⟨g, 3, none⟩ = some (.slice ab lb cb) := HBk.out.cell 3
    go_wp2_with fail
    refine (HNew.out _).mono ?_
    rintro e w2 ⟨rfl, hb2⟩
    have HB2 := Lib.hid (HB.out.trans (hb2.mono HB.out.size))
    have HBk2 := Lib.hid (HBk.out.below hb2 HBk.out.lt)
    clear hb2 q0 q1 q2 q3
    have q0 : w2.cell? ⟨g, 0, none⟩ = some (.int .i64 x) := HBk2.out.cell 0
    have q1 : w2.cell? ⟨g, 1, none⟩ = some (.int .i64 y) := HBk2.out.cell 1
    have q2 : w2.cell? ⟨g, 2, none⟩ = some (.int .i64 z) := HBk2.out.cell 2
    have q3 : w2.cell? ⟨g, 3, none⟩ = some (.slice ab lb cb) := HBk2.out.cell 3
    go_wp2_with fail
    refine (HRef.out _).mono ?_
    rintro e w3 ⟨rfl, hb3⟩
    have HB3 := Lib.hid (HB2.out.trans (hb3.mono HB2.out.size))
    clear hb3 q0 q1 q2 q3
    go_wp2
    (try simp only [Exit.inBlock, Exit.then])
    refine bodyPost_ret (results_tmp5 rfl _ _ _) rfl ?_
    exact HNo.out _ HB3.out
  obtain ⟨nb, rfl⟩ : ∃ n : Nat, x = n := ⟨x.toNat, by unfold GdI at hg; omega⟩
  obtain ⟨np, rfl⟩ : ∃ n : Nat, y = n := ⟨y.toNat, by unfold GdI at hg; omega⟩
  obtain ⟨sz, rfl⟩ : ∃ n : Nat, z = n := ⟨z.toNat, by unfold GdI at hg; omega⟩
  have hgd : Gd nb np sz := by unfold GdI at hg; unfold Gd; omega
  have HNew := Lib.hid (fun w' (hb : Below w.heap.size w w') => new_any nb np sz w' hgd bad ab lb cb (HBad.out.below hb) HLb.out)
  have HRef := Lib.hid (fun w' (hb : Below w.heap.size w w') X hX => rnew_any nb np sz w' hgd X hX bad ab lb cb (HBad.out.below hb) HLb.out)
  unfold geoV at HNew HRef
  clear hg hgd
  go_enter Tryz.func6, Tryz.ntmps6
  go_upto_region 1 with (fail)
  generalize (w.alloc (.cells #[.int .i64 (nb : Int), .int .i64 (np : Int), .int .i64 (sz : Int), .slice ab lb cb, .slice af lf cf, .slice ar lr cr, .slice al ll cl, .int .i64 res, .int .i64 first] 28)) = w1 at HB HBk ⊢
  obtain ⟨g, hgb⟩ : ∃ g, w.heap.size = g := ⟨_, rfl⟩
  have HGb := Lib.hid hgb
  rw [hgb] at HBk ⊢
  clear hgb
  have q0 : w1.cell? ⟨g, 0, none⟩ = some (.int .i64 nb) := HBk.out.cell 0
  have q1 : w1.cell? ⟨g, 1, none⟩ = some (.int .i64 np) := HBk.out.cell 1
  have q2 : w1.cell? ⟨g, 2, none⟩ = some (.int .i64 sz) := HBk.out.cell 2
  have q3 : w1.cell? ⟨g, 3, none⟩ = some (.slice ab lb cb) := HBk.out.cell 3
  go_wp2_with fail
  refine (HNew.out _ HB.out).mono ?_
  rintro e w2 ⟨hb2, hcase⟩
  have HB2 := Lib.hid (HB.out.trans (hb2.mono HB.out.size))
  have HBk2 := Lib.hid (HBk.out.below hb2 HBk.out.lt)
  clear q0 q1 q2 q3 hb2
  have q0 : w2.cell? ⟨g, 0, none⟩ = some (.int .i64 nb) := HBk2.out.cell 0
  have q1 : w2.cell? ⟨g, 1, none⟩ = some (.int .i64 np) := HBk2.out.cell 1
  have q2 : w2.cell? ⟨g, 2, none⟩ = some (.int .i64 sz) := HBk2.out.cell 2
  have q3 : w2.cell? ⟨g, 3, none⟩ = some (.slice ab lb cb) := HBk2.out.cell 3
  rcases hcase with ⟨hgo, o, rfl, hch, hof⟩ | ⟨⟨v, hv1, hv2⟩, rfl⟩
  case inr =>
    have HV := Lib.hid (And.intro hv1 hv2)
    clear hv1 hv2 HOp HRo
    go_wp2_with fail
    refine (HRef.out _ HB2.out (fun _ => False) (fun _ h => h.elim)).mono ?_
    rintro e w3 ⟨hb3, hcase⟩
    have HB3 := Lib.hid (HB2.out.trans (hb3.mono HB2.out.size))
    clear hb3 q0 q1 q2 q3
    rcases hcase with ⟨hr, -⟩ | ⟨-, rfl⟩
    · exact absurd (hr v HV.out.1) HV.out.2
    · go_wp2
      (try simp only [Exit.inBlock, Exit.then])
      refine bodyPost_ret (results_tmp5 rfl _ _ _) rfl ?_
      exact HNo.out _ HB3.out
  have HCh := Lib.hid hch
  have HOf := Lib.hid hof
  have HGo := Lib.hid hgo
  have hop : o.p = .pointer (some ⟨o.bc, 0, none⟩) := rfl
  rw [hop]
  clear hch hof hgo
  go_wp2_with fail
  refine (HRef.out _ HB2.out (fun b => o.F nb b) HCh.out.old).mono ?_
  rintro e w3 ⟨hb3, hcase⟩
  have HB3 := Lib.hid (HB2.out.trans (hb3.mono HB2.out.size))
  have HBk3 := Lib.hid (HBk2.out.below hb3 HBk2.out.lt)
  rcases hcase with ⟨hgood, r, rfl, hrc, hrf⟩ | ⟨⟨v, hv1, hv2⟩, rfl⟩
  case inr => exact absurd (HGo.out v hv1) hv2
  obtain ⟨X0, hX0⟩ : ∃ X0 : Nat → Prop, (fun b => o.F nb b ∨ r.F b) = X0 := ⟨_, rfl⟩
  have hx0 : ∀ b, X0 b ↔ (o.F nb b ∨ r.F b) := fun b => by rw [← hX0]
  rw [hX0] at hrc
  have hS0 : BsS w3 X0 o (newC nb np sz bad) r g #[.int .i64 (nb : Int), .int .i64 (np : Int), .int .i64 (sz : Int), .slice ab lb cb, .slice af lf cf, .slice ar lr cr, .slice al ll cl, .int .i64 res, .int .i64 first] w3 := by
    have hold := HCh.out.old
    have e2 := HBk2.out.lt
    have e1 := HBk.out.lt
    refine ⟨HBk3.out, fun h => ?_, ⟨_, HCh.out.widen hb3 (fun b h => ((hx0 b).1 h).imp id (hrf b)) hrc.old (fun b h => (hx0 b).2 (.inl h)), Cs.refl _⟩, hrc, fun b h h2 => ?_, Kp.refl _ _⟩
    · rcases (hx0 g).1 h with h | h
      · have := HOf.out g h; omega
      · have := hrf g h; omega
    · have := hold b h; have := hrf b h2; omega
  have HX0 : Hid (∀ b, X0 b → w.heap.size ≤ b) := Lib.hid fun b h => by
    rcases (hx0 b).1 h with h | h
    · exact Nat.le_trans HB.out.size (HOf.out b h)
    · exact Nat.le_trans HB2.out.size (hrf b h)
  have HS0 := Lib.hid hS0
  have hfl : FlAt w3 X0 (.slice af lf cf) fl := (HFl.out.outX HX0.out).belowX HB3.out
  have hlf9 : lf ≤ 20000 := by have := HFew.out.fl; have e := HLf.out; dsimp only at this; omega
  have hd9 : ∀ f ∈ fl, f.data.length ≤ 20000 := fun f hf => by have := HFew.out.fd f hf; omega
  obtain ⟨x, hx⟩ : ∃ x : Int, (x = 0 ∧ ∀ f ∈ fl, 0 ≤ f.at') ∨ (x = 1 ∧ ∃ f ∈ fl, f.at' < 0) := by
    by_cases h : ∀ f ∈ fl, 0 ≤ f.at'
    · exact ⟨0, .inl ⟨rfl, h⟩⟩
    · refine ⟨1, .inr ⟨rfl, ?_⟩⟩
      rw [Classical.not_forall] at h
      obtain ⟨f, h⟩ := h
      rw [Classical.not_imp] at h
      exact ⟨f, h.1, by omega⟩
  have HO := Lib.hid (fun w2 (hS : BsS w3 X0 o (newC nb np sz bad) r g #[.int .i64 (nb : Int), .int .i64 (np : Int), .int .i64 (sz : Int), .slice ab lb cb, .slice af lf cf, .slice ar lr cr, .slice al ll cl, .int .i64 res, .int .i64 first] w2) => bs_own af lf cf fl x hx hfl HLf.out hlf9 hd9 w2 hS)
  have HR := Lib.hid (fun w2 (hS : BsS w3 X0 o (newC nb np sz bad) r g #[.int .i64 (nb : Int), .int .i64 (np : Int), .int .i64 (sz : Int), .slice ab lb cb, .slice af lf cf, .slice ar lr cr, .slice al ll cl, .int .i64 res, .int .i64 first] w2) => bs_ref af lf cf fl x hx hfl w2 hS)
  have hop2 : o.p = .pointer (some ⟨o.bc, 0, none⟩) := rfl
  rw [hop2] at HO
  clear hop2
  clear hb3 q0 q1 q2 q3 hrc hrf hx0 hX0 hS0 hfl hlf9 hd9 hx HNew HRef HBk HBk2 HBk3 HCh HOf HGo hop
  go_upto_region 5 with (fail)
  refine wp_region_held_drew (S := BsS w3 X0 o (newC nb np sz bad) r g #[.int .i64 (nb : Int), .int .i64 (np : Int), .int .i64 (sz : Int), .slice ab lb cb, .slice af lf cf, .slice ar lr cr, .slice al ll cl, .int .i64 res, .int .i64 first]) (by kernel_rfl) (HS0.out.below (Below.refl _ _).drew) (fun hHeld => ?_)
  refine wpAnyH_take (i := 0) (v := .pointer (some ⟨o.bc, 0, none⟩)) rfl (by kernel_rfl) (by kernel_rfl) (by kernel_rfl) (fun _ _ _ h => h) (Or.inl ⟨by kernel_rfl, ?_⟩) hHeld ?_
  · intro w' hSw
    have z3 : w'.cell? ⟨g, 4, none⟩ = some (.slice af lf cf) := hSw.box.cell 4
    go_simp
  refine wpAnyH_take (i := 1) (v := .pointer (some ⟨g, 4, none⟩)) rfl (by kernel_rfl) (by kernel_rfl) (by kernel_rfl) (fun _ _ _ h => h) (Or.inl ⟨by kernel_rfl, ?_⟩) hHeld ?_
  · intro w' hSw
    have z3 : w'.cell? ⟨g, 4, none⟩ = some (.slice af lf cf) := hSw.box.cell 4
    go_simp
  refine wpAnyH_take (i := 2) (v := .slice af lf cf) rfl (by kernel_rfl) (by kernel_rfl) (by kernel_rfl) (fun _ _ _ h => h) (Or.inl ⟨by kernel_rfl, ?_⟩) hHeld ?_
  · intro w' hSw
    have z3 : w'.cell? ⟨g, 4, none⟩ = some (.slice af lf cf) := hSw.box.cell 4
    go_simp
  refine wpAnyH_take (i := 4) (v := .pointer (some ⟨r.g, 0, none⟩)) rfl (by kernel_rfl) (by kernel_rfl) (by kernel_rfl) (fun _ _ _ h => h) (Or.inl ⟨by kernel_rfl, ?_⟩) hHeld ?_
  · intro w' hSw
    have z3 : w'.cell? ⟨g, 4, none⟩ = some (.slice af lf cf) := hSw.box.cell 4
    go_simp
  refine wpAnyH_take (i := 5) (v := .pointer (some ⟨g, 4, none⟩)) rfl (by kernel_rfl) (by kernel_rfl) (by kernel_rfl) (fun _ _ _ h => h) (Or.inl ⟨by kernel_rfl, ?_⟩) hHeld ?_
  · intro w' hSw
    have z3 : w'.cell? ⟨g, 4, none⟩ = some (.slice af lf cf) := hSw.box.cell 4
    go_simp
  refine wpAnyH_take (i := 6) (v := .slice af lf cf) rfl (by kernel_rfl) (by kernel_rfl) (by kernel_rfl) (fun _ _ _ h => h) (Or.inl ⟨by kernel_rfl, ?_⟩) hHeld ?_
  · intro w' hSw
    have z3 : w'.cell? ⟨g, 4, none⟩ = some (.slice af lf cf) := hSw.box.cell 4
    go_simp
  try simp only [Act.put, List.setIfInBounds_toArray]
  refine wpAnyH_ready (rs := [3]) (by kernel_rfl) (by simp) ?_
  refine AllReadyH.cons rfl (fun K hK => ?_) AllReadyH.nil
  go_simp
  refine (HO.out _ hHeld).mono ?_
  rintro e w4 ⟨rfl, hS2⟩
  refine hK.out _ _ hS2 (fun hHeld2 => ?_)
  try simp only [Act.put, List.setIfInBounds_toArray, List.set]
  refine wpAnyH_ready (rs := [7]) (by kernel_rfl) (by simp) ?_
  refine AllReadyH.cons rfl (fun K hK => ?_) AllReadyH.nil
  go_simp
  refine (HR.out _ hHeld2).mono ?_
  rintro e w5 ⟨rfl, hS3⟩
  refine hK.out _ _ hS3 (fun hHeld3 => ?_)
  try simp only [Act.put, List.setIfInBounds_toArray, List.set]
  refine wpAnyH_ready (rs := [8]) (by kernel_rfl) (by simp) ?_
  refine AllReadyH.cons rfl (fun K hK => ?_) AllReadyH.nil
  go_simp
  refine hK.out _ _ hHeld3 (fun _ => ?_)
  refine wpAnyH_done (by kernel_rfl) ?_ _
  try simp only [Act.put, List.setIfInBounds_toArray, List.set, bne_self_eq_false]
  obtain ⟨c5, hc5, hcs⟩ := hHeld3.ch
  have hrm5 := hHeld3.rm
  have hdis := hHeld3.dis
  have HBk5 := Lib.hid hHeld3.box
  have HB5 := Lib.hid (HB3.out.trans (hHeld3.kp.below HX0.out HB3.out.size))
  have hn5 : c5.nb = nb ∧ c5.np = np ∧ c5.sz = sz ∧ c5.up = true ∧ ∀ k, k < c5.nb → I64 (c5.wear k) := by
    obtain ⟨_, _, rfl⟩ := hcs
    exact ⟨rfl, rfl, rfl, rfl, fun k _ => (show I64 0 by unfold I64; omega)⟩
  obtain ⟨n1, n2, n3, n4, n5⟩ := hn5
  have HOp5 := Lib.hid (HOp.out _ HB5.out X0 o c5 hc5 n4 n5)
  try dsimp only at HOp5
  have hop2 : o.p = .pointer (some ⟨o.bc, 0, none⟩) := rfl
  rw [hop2] at HOp5
  have HC5 := Lib.hid hc5
  have HCs := Lib.hid hcs
  have HR5 := Lib.hid hrm5
  have HDis := Lib.hid hdis
  have HN5 := Lib.hid (And.intro n1 (And.intro n2 n3))
  have q3 : w5.cell? ⟨g, 5, none⟩ = some (.slice ar lr cr) := HBk5.out.cell 5
  have q4 : w5.cell? ⟨g, 6, none⟩ = some (.slice al ll cl) := HBk5.out.cell 6
  have q5 : w5.cell? ⟨g, 7, none⟩ = some (.int .i64 res) := HBk5.out.cell 7
  have q6 : w5.cell? ⟨g, 8, none⟩ = some (.int .i64 first) := HBk5.out.cell 8
  clear hc5 hcs hrm5 hdis n1 n2 n3 n4 n5 hop2 hHeld hHeld2 hS2 hS3 hHeld3 HOp HO HR HS0
  go_wp2_with fail
  refine HOp5.out.mono ?_
  rintro e w6 ⟨hcase, hb6⟩
  have HB6 := Lib.hid (HB5.out.trans (hb6.mono HB5.out.size))
  have HBk6 := Lib.hid (HBk5.out.below hb6 HBk5.out.lt)
  clear q3 q4 q5 q6 HOp5
  have q3 : w6.cell? ⟨g, 5, none⟩ = some (.slice ar lr cr) := HBk6.out.cell 5
  have q4 : w6.cell? ⟨g, 6, none⟩ = some (.slice al ll cl) := HBk6.out.cell 6
  have q5 : w6.cell? ⟨g, 7, none⟩ = some (.int .i64 res) := HBk6.out.cell 7
  have q6 : w6.cell? ⟨g, 8, none⟩ = some (.int .i64 first) := HBk6.out.cell 8
  rcases hcase with ⟨hno, rfl⟩ | ⟨hok, M, m, rfl, hm, hmm, hM, hg⟩
  · have HRo6 := Lib.hid (HRo.out _ HB6.out X0 r nb np sz (HR5.out.below hb6))
    try dsimp only at HRo6
    have HNok := Lib.hid hno
    clear hno hb6
    go_wp2_with fail
    refine HRo6.out.mono ?_
    rintro e w7 ⟨⟨-, rfl⟩ | ⟨hok, -⟩, hb7⟩
    · have HB7 := Lib.hid (HB6.out.trans (hb7.mono HB6.out.size))
      clear hb7 q3 q4 q5 q6
      go_wp2
      (try simp only [Exit.inBlock, Exit.then])
      refine bodyPost_ret (results_tmp5 rfl _ _ _) rfl ?_
      exact HNo.out _ HB7.out
    · refine absurd ?_ HNok.out
      rw [HN5.out.1, HN5.out.2.1]
      exact hok
  · obtain ⟨X1, hX1⟩ : ∃ X1 : Nat → Prop, (fun b => X0 b ∨ b = m.g) = X1 := ⟨_, rfl⟩
    have hx1 : ∀ b, X1 b ↔ (X0 b ∨ b = m.g) := fun b => by rw [← hX1]
    have hc6 : ChAt w6 X1 o c5 := HC5.out.widen hb6 (fun b h => ((hx1 b).1 h).imp id (fun e => by rw [e]; exact hg)) (fun b h => by
      rcases (hx1 b).1 h with h | rfl
      · exact Nat.lt_of_lt_of_le (HC5.out.old b h) hb6.size
      · exact hm.own.lt) (fun b h => (hx1 b).2 (.inl h))
    have hr6 : RcAt w6 X1 r nb np sz false := HR5.out.widen hb6 (fun b h => ((hx1 b).1 h).imp id (fun e => by rw [e]; exact hg)) hc6.old (fun b h => (hx1 b).2 (.inl h))
    have HRo6 := Lib.hid (HRo.out _ HB6.out X1 r nb np sz hr6)
    try dsimp only at HRo6
    have hlo := HB5.out.size
    have HX1 : Hid (∀ b, X1 b → w.heap.size ≤ b) := Lib.hid fun b h => by
      rcases (hx1 b).1 h with h | rfl
      · exact HX0.out b h
      · omega
    have HOk := Lib.hid hok
    have hld := HC5.out.old
    have HoM : Hid (¬ o.F c5.nb M ∧ ¬ o.F c5.nb m.g) := Lib.hid ⟨fun h => by have := hld M (HC5.out.inX _ h); omega, fun h => by have := hld m.g (HC5.out.inX _ h); omega⟩
    have HrM : Hid (∀ b, r.F b → ¬ o.F c5.nb b ∧ b ≠ m.g ∧ b ≠ M) := Lib.hid fun b h => by
      have h9 := HR5.out.old b (HR5.out.inX b h)
      exact ⟨fun h2 => HDis.out b (by rw [HN5.out.1] at h2; exact h2) h, by omega, by omega⟩
    have HXg : Hid (X1 m.g) := Lib.hid ((hx1 _).2 (.inr rfl))
    have HC6 := Lib.hid hc6
    have HMM := Lib.hid hmm
    have HMg := Lib.hid hm
    clear hb6 hX1 hx1 hc6 hr6 hok hld hmm hm hlo hM hg
    go_wp2_with fail
    refine HRo6.out.mono ?_
    rintro e w7 ⟨⟨hno, -⟩ | ⟨-, q, rfl, hrm, hqF⟩, hb7⟩
    · refine absurd ?_ hno
      have := HOk.out
      rw [HN5.out.1, HN5.out.2.1] at this
      exact this
    · have HB7 := Lib.hid (HB6.out.trans (hb7.mono HB6.out.size))
      obtain ⟨X2, hX2⟩ : ∃ X2 : Nat → Prop, (fun b => X1 b ∨ q.F b) = X2 := ⟨_, rfl⟩
      have hx2 : ∀ b, X2 b ↔ (X1 b ∨ q.F b) := fun b => by rw [← hX2]
      rw [hX2] at hrm
      have hold7 := hrm.chip.old
      have hg6 := HMg.out.own.lt
      have hM6 := HMg.out.blk.lt
      have HPr : Hid (Pr w7 X2 M m o c5 r q) := Lib.hid ⟨HMg.out.below hb7, HC6.out.widen hb7 (fun b h => ((hx2 b).1 h).imp id (hqF b)) hold7 (fun b h => (hx2 b).2 (.inl h)), HMM.out.1, by rw [HMM.out.2.1, rows_length], ⟨false, by rw [HN5.out.1, HN5.out.2.1, HN5.out.2.2]; exact hrm⟩, (hx2 _).2 (.inl HXg.out), HoM.out.1, HoM.out.2, fun b hb => by
        rcases hb with hb | hb
        · exact HrM.out b hb
        · have h8 := hqF b hb
          exact ⟨fun h => by have := HC6.out.old b (HC6.out.inX b h); omega, by omega, by omega⟩⟩
      have HE : Hid (BoP w ⟨nb, np, sz, bad, fl, fr, lv, res, first⟩ (.returned (.tuple #[.pointer (some ⟨M, 0, none⟩), o.p, .pointer (some ⟨q.d, 0, none⟩), .bool true, .bool true])) w7) := Lib.hid ⟨HB7.out, .inr ⟨X2, M, m, o, c5, r, q, rfl, HPr.out, fun b h => by
        rcases (hx2 b).1 h with h | h
        · exact HX1.out b h
        · have := hqF b h; have := HB6.out.size; omega, hold7, ⟨by rw [HN5.out.1], by rw [HN5.out.2.1], by rw [HN5.out.2.2]⟩, HOk.out, by rw [HN5.out.1, HN5.out.2.1, HN5.out.2.2]; exact HCs.out, HMM.out.2.1, Nat.lt_of_lt_of_le hM6 hb7.size⟩⟩
      have hop2 : o.p = .pointer (some ⟨o.bc, 0, none⟩) := rfl
      rw [hop2] at HE
      clear hop2 hb7 q3 q4 q5 q6 hX2 hx2 hrm hold7 hqF hg6 hM6 HPr
      go_wp2
      (try simp only [Exit.inBlock, Exit.then])
      refine bodyPost_ret (results_tmp5 rfl _ _ _) rfl ?_
      exact HE.out
end Go.Proofs.YtjjggmopkfkpaaaGreat
