/-
  A range over a function whose elements are known by their numbers: a round is told which element it is handed. Nothing of the program stands here.
-/
import Derived.RangeFuncNested
import Derived.Test.YtaohkakefdhecaaBlk
namespace Go.Proofs.Ytaohkakefdhecaa
open Go.RowKit

/-- what an iterator owes that hands on N elements, the k-th as 'encs k': called where q blocks lie, it turns none but those that T names, and lays z blocks ahead of its first round -/
def SeqAt (F : Fence) (n : Nat) (P : Program) (g : Nat) (lb : Array Value) (encs : Nat → Array Value) (T : Nat → World → Nat → Prop) (z : Nat) (Kp : Nat → World → World → Prop) (N : Nat) (w : World) : Prop :=
  ∀ (l : Nat) (J Jx : Nat → World → Prop) (W : World), Below w.heap.size w W →
    (∀ s A B row, J s A → A.grownBy B row → (∀ r, row = some r → T W.heap.size A r ∨ (W.heap.size ≤ r ∧ ∃ o : Obj, A.heap[r]? = some o ∧ o.isWalk = true)) → J s B) →
    (∀ s A B row, Jx s A → A.grownBy B row → (∀ r, row = some r → T W.heap.size A r ∨ (W.heap.size ≤ r ∧ ∃ o : Obj, A.heap[r]? = some o ∧ o.isWalk = true)) → Jx s B) →
    (∀ k X, k < N → J k X → W.heap.size + z ≤ X.heap.size → YieldAt F (n - 1) P l (encs k) X fun e X' => (e = .returned (.bool true) ∧ J (k + 1) X' ∧ Kp W.heap.size X X') ∨ (e = .returned (.bool false) ∧ Jx (k + 1) X' ∧ KeepsFrom W.heap.size X X')) →
    J 0 W → CallsIn F n P g (#[.func (.yield l) #[] #[]] ++ lb) W fun e W' => (∃ v, e = .returned v) ∧ (J N W' ∨ ∃ k, k ≤ N ∧ Jx k W')

/-- what abides a new block, a turn of what T names, and a turn of what holds no cells from B on -/
def OnOwn {β : Type} (B : Nat) (T : World → Nat → Prop) (I : β → World → Prop) : Prop :=
  ∀ s A C row, I s A → A.grownBy C row → (∀ r, row = some r → T A r ∨ (B ≤ r ∧ ∃ o : Obj, A.heap[r]? = some o ∧ o.isCells = false)) → I s C
theorem OnOwn.from {β : Type} {B : Nat} {T : World → Nat → Prop} {I : β → World → Prop} (h : OnOwn B T I) : OwnFrom B I := fun s A C row hs hg hr => h s A C row hs hg (fun r e => .inr (hr r e))
theorem OnOwn.and {β : Type} {B : Nat} {T : World → Nat → Prop} {I I' : β → World → Prop} (h : OnOwn B T I) (h' : OnOwn B T I') : OnOwn B T (fun s W => I s W ∧ I' s W) := fun s A C row hs hg hr => ⟨h s A C row hs.1 hg hr, h' s A C row hs.2 hg hr⟩
theorem onOwn_pure {β : Type} (B : Nat) (T : World → Nat → Prop) (p : β → Prop) : OnOwn B T (fun s (_ : World) => p s) := fun _ _ _ _ hs _ _ => hs
theorem onOwn_blk {β : Type} {B : Nat} {T : World → Nat → Prop} (g : Nat) (t : TypeId) (f : β → Array Value) (hT : ∀ s A, Blk A g t (f s) → ¬ T A g) : OnOwn B T (fun s W => Blk W g t (f s)) := fun s A C row hs hg hr =>
  (hg.block g hs.lt (fun e => by
    rcases hr g e.symm with h | ⟨_, o, ho, hc⟩
    · exact hT s A hs h
    · rw [show A.heap[g]? = _ from hs] at ho; cases ho; cases hc)).trans hs
theorem onOwn_below {β : Type} {n₀ B : Nat} {T : World → Nat → Prop} {w₀ : World} (hn : n₀ ≤ w₀.heap.size) (hB : n₀ ≤ B) (hT : ∀ A r, T A r → n₀ ≤ r) : OnOwn B T (fun (_ : β) W => Below n₀ w₀ W) :=
  fun _ _ _ _ hs hg hr => hs.grown hg (Nat.le_trans hn hs.size) (fun k e => by rcases hr k e with h | h; exact hT _ k h; exact Nat.le_trans hB h.1)
theorem onOwn_row {β : Type} {B base sz : Nat} {T : World → Nat → Prop} {t : TypeId} (f : β → Value) (n : β → Nat) (g : β → List Value) (hT : ∀ s A r, A.ownsRow base t sz (f s) (n s) (g s) → (f s).ownBlock = some r → ¬ T A r) : OnOwn B T (fun s W => W.ownsRow base t sz (f s) (n s) (g s)) := fun s A C row hs hg hr => by
  refine hs.kept hg ?_
  by_cases e : (f s).ownBlock = row
  · left
    rcases row with _ | r
    · exact e
    · exfalso
      rcases hr r rfl with h | ⟨_, o, ho, hc⟩
      · exact hT s A r hs e h
      · rcases hs.2 with ⟨h0, _⟩ | ⟨g', cap, cur, h0, _, hgg, _⟩
        · rw [h0] at e; simp [Value.ownBlock] at e
        · rw [h0] at e
          simp [Value.ownBlock] at e
          subst e
          rw [hgg] at ho; cases ho; cases hc
  · exact .inr e

/-- how a round may be left -/
def AtPost (B : Nat) (Kp : World → World → Prop) (I : Nat → World → Prop) (Ix : Code → Nat → World → Prop) (k : Nat) (W : World) : Exit → Act → World → Prop
  | .normal, _, W' => KeepsFrom B W W' ∧ Kp W W' ∧ I k W'
  | .ret, _, W' => KeepsFrom B W W' ∧ Ix .ret k W'
  | .exit id, _, W' => KeepsFrom B W W' ∧ Ix (.exit id) k W'
  | .goto t, _, W' => KeepsFrom B W W' ∧ Ix (.goto t) k W'
  | .panic _, _, _ => False
  | .outgrown, _, _ => False

/-- the loop's two blocks: what is put off till the end, and the record -/
structure Bk2 (p : Nat) (r : Loop) (W : World) : Prop where
  defs : W.heap[p]? = some (.deferred (some []))
  rec_ : W.heap[p + 1]? = some (.loop r)
theorem Bk2.kept {p : Nat} {r : Loop} {X Y : World} {row : Option Nat} (h : Bk2 p r X) (hg : X.grownBy Y row) (hr : ∀ j, row = some j → (j < p ∨ p + 2 ≤ j) ∨ ∃ o : Obj, X.heap[j]? = some o ∧ o.isWalk = true) : Bk2 p r Y := by
  have hne : ∀ (j : Nat) (o : Obj), j = p ∨ j = p + 1 → X.heap[j]? = some o → o.isWalk = false → Y.heap[j]? = some o := fun j o hj ho hw => by
    refine (hg.block j (Array.getElem?_eq_some_iff.1 ho).1 (fun e => ?_)).trans ho
    rcases hr j e.symm with h1 | ⟨o', ho', hw'⟩
    · omega
    · rw [ho] at ho'; cases ho'; rw [hw] at hw'; cases hw'
  exact ⟨hne p _ (.inl rfl) h.defs rfl, hne (p + 1) _ (.inr rfl) h.rec_ rfl⟩
theorem Bk2.from {p B : Nat} {r : Loop} {X Y : World} (h : Bk2 p r X) (hB : B ≤ p) (hk : KeepsFrom B X Y) : Bk2 p r Y :=
  ⟨hk.same p _ hB h.defs rfl, hk.same (p + 1) _ (by omega) h.rec_ rfl⟩
theorem Bk2.put {p : Nat} {r : Loop} {X : World} (h : Bk2 p r X) (r' : Loop) : Bk2 p r' (X.putObj (p + 1) (.loop r')) :=
  ⟨(World.putObj_heap_other (by omega)).trans h.defs, World.putObj_heap_same (Array.getElem?_eq_some_iff.1 h.rec_).1⟩

theorem keepsFrom_mono {B B' : Nat} {X Y : World} (hB : B ≤ B') (h : KeepsFrom B X Y) : KeepsFrom B' X Y := ⟨h.size, fun i o hi h1 h2 => h.same i o (by omega) h1 h2⟩
theorem keepsFrom_putLow {B j : Nat} (hj : j < B) (X : World) (o : Obj) : KeepsFrom B X (X.putObj j o) := ⟨by simp, fun i o' hi h1 _ => (World.putObj_heap_other (by omega)).trans h1⟩
theorem rangeFunc_at {F : Fence} {n : Nat} {P : Program} {g : Operand} {ps : Array Tmp} {assign body : Code} {Q : Exit → Act → World → Prop} {a : Act} {w : World}
    (hro : F.round = none) (h1 : 1 ≤ n) {gf : Nat} {lb : Array Value} (hg : a.eval g = .func (.func gf) #[] lb) (hFg : F.fn gf) (eg : ∀ args w, (callFunc gf args).run P w = .ok (.enter gf args) w)
    {encs : Nat → Array Value} {T : Nat → World → Nat → Prop} {z : Nat} {Kq : Nat → World → World → Prop} {N : Nat} {w0 : World} (hseq : SeqAt F (n - 1) P gf lb encs T z Kq N w0) {Kp : World → World → Prop} (hKp : Kp = Kq (w.heap.size + 2))
    (hT : ∀ A r, T (w.heap.size + 2) A r → r < w.heap.size ∨ w.heap.size + 2 ≤ r)
    (hKt : ∀ {A B C : World}, Kp A B → Kp B C → Kp A C) (hKb : ∀ (W : World) (o' : Obj), w.heap.size + 1 < W.heap.size → Kp W (W.putObj (w.heap.size + 1) o')) (hb0 : Below w0.heap.size w0 w) (hps : ∀ k, (encs k).size = ps.size)
    (I : Nat → World → Prop) (Ix : Code → Nat → World → Prop) (hI : OnOwn w.heap.size (T (w.heap.size + 2)) I) (hIx : ∀ c, OnOwn w.heap.size (T (w.heap.size + 2)) (Ix c)) (h0 : I 0 w) (Ax : Nat → Act → World → Prop) (hAx : ∀ k a', OwnFrom w.heap.size (fun (_ : Unit) W => Ax k a' W))
    (hassign : ∀ (l k : Nat) (W : World) (K : Act → World → Prop), w.heap.size + 2 + z ≤ W.heap.size → k < N → I k W → (∀ a' W', KeepsFrom w.heap.size W W' → Kp W W' → I k W' → Ax k a' W' → K a' W') →
      assign.wpIn (F.inRound l) (n - 1 - 1) P (Exit.then K (fun _ _ _ => False)) { tmps := (ps.zip (encs k)).foldl (fun t (p, v) => t.setIfInBounds p v) a.tmps, defers := [] } W)
    (hbody : ∀ (l k : Nat) (a' : Act) (W : World), w.heap.size ≤ l → w.heap.size + 2 + z ≤ W.heap.size → (∃ r, W.heap[l]? = some (.loop r)) → k < N → I k W → Ax k a' W → body.wpIn (F.inRound l) (n - 1 - 1) P (AtPost w.heap.size Kp I Ix (k + 1) W) a' W)
    (hdone : ∀ (D : Nat) (W : World), w.heap.size ≤ D → I N W → W.heap[D]? = some (.deferred (some [])) → Q .normal { a with defers := { target := .collected D, args := #[] } :: a.defers } W)
    (hstop : ∀ (D : Nat) (c : Code) (k : Nat) (W : World), w.heap.size ≤ D → k ≤ N → Ix c k W → W.heap[D]? = some (.deferred (some [])) → c.wpIn F n P Q { a with defers := { target := .collected D, args := #[] } :: a.defers } W) :
    (Code.rangeFunc g ps assign body).wpIn F n P Q a w := by
  refine wpIn_rangeFunc fun fn hfn => ?_
  rw [hro]
  obtain ⟨p, hp⟩ : ∃ p, w.heap.size = p := ⟨_, rfl⟩
  obtain ⟨R, hR⟩ : ∃ R : LoopState → Option Code → Loop, R = fun st pe => { state := st, pending := pe, fn, tmps := a.tmps, params := ps, assign, body, defers := w.heap.size } := ⟨_, rfl⟩
  obtain ⟨W1, hW1⟩ : ∃ W1, (w.alloc (.deferred (some []))).alloc (.loop (R .ready none)) = W1 := ⟨_, rfl⟩
  have hz1 : W1.heap.size = p + 2 := by rw [← hW1, ← hp]; simp
  have hk1 : Bk2 p (R .ready none) W1 := by
    rw [← hW1, ← hp]
    refine ⟨(Below.heap_alloc _ _ _ (by simp)).trans (World.alloc_heap_new w _), ?_⟩
    have := World.alloc_heap_new (w.alloc (.deferred (some []))) (.loop (R .ready none))
    rwa [World.size_alloc] at this
  subst hKp
  have hI1 : I 0 W1 := by rw [← hW1]; exact hI.from.alloc _ (hI.from.alloc _ h0)
  have hb1 : Below w0.heap.size w0 W1 := by rw [← hW1]; exact (hb0.alloc hb0.size _).alloc (Nat.le_trans hb0.size (by simp)) _
  have hq : W1.heap.size = w.heap.size + 2 := by omega
  have hKb' : ∀ (W : World) (o' : Obj), p + 1 < W.heap.size → Kq (w.heap.size + 2) W (W.putObj (p + 1) o') := fun W o' h => by
    have := hKb W o' (by omega)
    rw [show w.heap.size + 1 = p + 1 by omega] at this
    exact this
  have hwalk : ∀ {A : World} {row : Option Nat}, (∀ j, row = some j → T W1.heap.size A j ∨ (W1.heap.size ≤ j ∧ ∃ o : Obj, A.heap[j]? = some o ∧ o.isWalk = true)) → (∀ j, row = some j → T (w.heap.size + 2) A j ∨ (w.heap.size ≤ j ∧ ∃ o : Obj, A.heap[j]? = some o ∧ o.isCells = false)) :=
    fun h j e => by
      rcases h j e with h1 | ⟨hj, o, ho, hw⟩
      · rw [hq] at h1; exact .inl h1
      · exact .inr ⟨by omega, o, ho, Obj.not_cells_of_walk hw⟩
  have hbk : ∀ {A : World} {row : Option Nat}, (∀ j, row = some j → T W1.heap.size A j ∨ (W1.heap.size ≤ j ∧ ∃ o : Obj, A.heap[j]? = some o ∧ o.isWalk = true)) → (∀ j, row = some j → (j < p ∨ p + 2 ≤ j) ∨ ∃ o : Obj, A.heap[j]? = some o ∧ o.isWalk = true) :=
    fun h j e => by
      rcases h j e with h1 | ⟨hj, o, ho, hw⟩
      · rw [hq] at h1
        have := hT _ j h1
        exact .inl (by omega)
      · exact .inr ⟨o, ho, hw⟩
  refine ⟨p + 1, [{ target := .collected p, args := #[] }], W1, { target := .fn (.func gf) lb, args := #[.func (.yield (p + 1)) #[] #[]] }, W1, gf, #[.func (.yield (p + 1)) #[] #[]] ++ lb, W1, ?_, ?_, ?_, ?_, fun _ => h1, ?_⟩
  · rw [← hW1, hR, ← hp]; exact run_enterLoop_outer _ _ _ _ _
  · simp only [resolve, hg]; simp [go_sem]
  · intro f' hf'; simp [Target.leads] at hf'; subst hf'; exact hFg
  · simp [invoke, go_sem, eg]
  refine (hseq (p + 1) (fun k W => I k W ∧ Bk2 p (R .ready none) W) (fun k W => ∃ c, Ix c k W ∧ Bk2 p (R .done (some c)) W) W1 hb1
    (fun s A B row hs hg' hr => ⟨hI s A B row hs.1 hg' (hwalk hr), hs.2.kept hg' (hbk hr)⟩)
    (fun s A B row ⟨c, hs1, hs2⟩ hg' hr => ⟨c, hIx c s A B row hs1 hg' (hwalk hr), hs2.kept hg' (hbk hr)⟩)
?_ ⟨hI1, hk1⟩).mono ?_
  · rintro k W hkN ⟨hi, hb⟩ hzW
    rw [hq] at hzW ⊢
    have hy := run_yield (P := P) (args := encs k) hb.rec_ (by rw [hR]; exact hps k)
    have hy' : (Instr.yield (p + 1) (encs k)).run P W = .ok (.round (p + 1) fn ((ps.zip (encs k)).foldl (fun tmps (t, a) => tmps.setIfInBounds t a) a.tmps) assign body) W := by rw [hy, hR]
    refine ⟨fn, _, assign, body, hy', roundIn_of_wpIn hfn (hassign _ k W _ hzW hkN hi fun a' X hkf hkp hiX hax => ?_)⟩
    have hbX : Bk2 p (R .ready none) X := hb.from (by omega) hkf
    have hlt : p + 1 < X.heap.size := (Array.getElem?_eq_some_iff.1 hbX.rec_).1
    have hR0 : (R .ready none).state = .ready := by rw [hR]
    refine ⟨_, run_beginRound hbX.rec_ hR0, ?_⟩
    have hbY := hbX.put { R .ready none with state := .busy }
    have hkY : Kq (w.heap.size + 2) W (X.putObj (p + 1) (.loop { R .ready none with state := .busy })) := hKt hkp (hKb' _ _ hlt)
    have hzY : w.heap.size + 2 + z ≤ (X.putObj (p + 1) (.loop { R .ready none with state := .busy })).heap.size := Nat.le_trans (Nat.le_trans hzW hkf.size) (by simp)
    refine wpIn_mono (hbody _ k a' _ (by omega) hzY ⟨_, hbY.rec_⟩ hkN (hI.from.putObj _ hiX (by omega) hbX.rec_ rfl) ((hAx k a').putObj (s := ()) _ hax (by omega) hbX.rec_ rfl)) ?_
    clear hzY
    have hfY : KeepsFrom (w.heap.size + 2) W (X.putObj (p + 1) (.loop { R .ready none with state := .busy })) := (keepsFrom_mono (by omega) hkf).trans (keepsFrom_putLow (by omega) _ _)
    generalize (X.putObj (p + 1) (.loop { R .ready none with state := .busy })) = Y at hbY hkY hfY
    have fin : ∀ (jump : Option Code) (Z : World), KeepsFrom w.heap.size Y Z →
        (Instr.endRound (p + 1) jump).run P Z = .ok (.bool jump.isNone) (Z.putObj (p + 1) (.loop (R (if jump.isNone then .ready else .done) jump))) ∧ Bk2 p { R .ready none with state := .busy } Z ∧
        Bk2 p (R (if jump.isNone then .ready else .done) jump) (Z.putObj (p + 1) (.loop (R (if jump.isNone then .ready else .done) jump))) := fun jump Z hk3 => by
      have hbZ := hbY.from (by omega) hk3
      have e := run_endRound (P := P) jump hbZ.rec_
      have e2 : ({ ({ R .ready none with state := .busy } : Loop) with state := if jump.isNone then .ready else .done, pending := jump } : Loop) = R (if jump.isNone then .ready else .done) jump := by rw [hR]
      rw [e2] at e
      exact ⟨e, hbZ, hbZ.put _⟩
    have out : ∀ (c : Code) (Z : World), KeepsFrom w.heap.size Y Z → Ix c (k + 1) Z → ∃ (v : Value) (Z' : World), (Instr.endRound (p + 1) (some c)).run P Z = .ok v Z' ∧
        ((v = .bool true ∧ (I (k + 1) Z' ∧ Bk2 p (R .ready none) Z') ∧ Kq (w.heap.size + 2) W Z') ∨ (v = .bool false ∧ (∃ c, Ix c (k + 1) Z' ∧ Bk2 p (R .done (some c)) Z') ∧ KeepsFrom (w.heap.size + 2) W Z')) := fun c Z hk3 hi3 => by
      obtain ⟨hr, hb3, hb4⟩ := fin (some c) Z hk3
      exact ⟨_, _, hr, .inr ⟨rfl, ⟨c, (hIx _).from.putObj _ hi3 (by omega) hb3.rec_ rfl, hb4⟩, hfY.trans ((keepsFrom_mono (by omega) hk3).trans (keepsFrom_putLow (by omega) _ _))⟩⟩
    rintro e a3 Z hpost
    cases e with
    | normal =>
      obtain ⟨hk3, hkp3, hi3⟩ := hpost
      obtain ⟨hr, hb3, hb4⟩ := fin none Z hk3
      refine ⟨_, _, hr, .inl ⟨rfl, ⟨hI.from.putObj _ hi3 (by omega) hb3.rec_ rfl, hb4⟩, hKt (hKt hkY hkp3) (hKb' _ _ (Array.getElem?_eq_some_iff.1 hb3.rec_).1)⟩⟩
    | ret =>
      obtain ⟨v, Z', h1, h2⟩ := out _ Z hpost.1 hpost.2
      exact ⟨_, _, h1, h2.imp (fun h => ⟨by rw [h.1], h.2⟩) (fun h => ⟨by rw [h.1], h.2⟩)⟩
    | exit id =>
      obtain ⟨v, Z', h1, h2⟩ := out _ Z hpost.1 hpost.2
      exact ⟨_, _, h1, h2.imp (fun h => ⟨by rw [h.1], h.2⟩) (fun h => ⟨by rw [h.1], h.2⟩)⟩
    | goto t =>
      obtain ⟨v, Z', h1, h2⟩ := out _ Z hpost.1 hpost.2
      exact ⟨_, _, h1, h2.imp (fun h => ⟨by rw [h.1], h.2⟩) (fun h => ⟨by rw [h.1], h.2⟩)⟩
    | panic ch => exact hpost.elim
    | outgrown => exact hpost.elim
  · rintro e Z ⟨⟨v, rfl⟩, (⟨hi, hb⟩ | ⟨k, hk, c, hi, hb⟩)⟩
    · have e := run_endLoop (P := P) hb.rec_ (by rw [hR]; simp)
      rw [show (R .ready none).pending = none by rw [hR]] at e
      exact ⟨none, _, e, hdone p _ (by omega) (hI.from.putObj _ hi (by omega) hb.rec_ rfl) ((World.putObj_heap_other (by omega)).trans hb.defs)⟩
    · have e := run_endLoop (P := P) hb.rec_ (by rw [hR]; simp)
      rw [show (R .done (some c)).pending = some c by rw [hR]] at e
      exact ⟨some c, _, e, hstop p c k _ (by omega) hk ((hIx c).from.putObj _ hi (by omega) hb.rec_ rfl) ((World.putObj_heap_other (by omega)).trans hb.defs)⟩
end Go.Proofs.Ytaohkakefdhecaa
