/-
  The map from three bytes to the places where they stand. Nothing of one statement alone stands here.
-/
import Derived.Test.YtaohkakefdhecaaSqLong
import Derived.Maps.OwnRows
import Derived.Maps.OwnSet
import Derived.Maps.GroupsBeside
import Derived.WideKeyEntry
import Derived.DeepKeys4
namespace Go.Proofs.Ytaohkakefdhecaa
open Go.RowKit Crcm Sqm Tagm Inom Roomm Go.ChangeShapes Go.Maps Go.WideElems Go.MapKept
open Go.ChangeMaps (setBlock heap_setBlock_same)

theorem laidOut3 : laidOutB Try.prog = true := by kernel_rfl
theorem threeLaw : WideMaps.KeyLaw Try.prog 57 := deep_law_laid laidOut3 (m := 2) (by omega) (of_decide_eq_true (by kernel_rfl)) (by kernel_rfl) (by kernel_rfl)
theorem threeKeyed : Keyed Try.prog 57 := Keyed.of_law threeLaw
theorem threeType : Try.prog.keyType 57 = true := by kernel_rfl

/-- three bytes, as a value, and as a key -/
def v3 (x y z : Int) : Value := .agg #[.int .u8 x, .int .u8 y, .int .u8 z]
def k3 (x y z : Int) : Lit := .string (keyBytes [.int .u8 x, .int .u8 y, .int .u8 z])
theorem lits_u8 {d : Nat} {a : Int} (ha : (Lit.int .u8 a).wf = true) : Try.prog.keyLits (d + 1) 5 [.int .u8 a] = some [.int .u8 a] := by
  unfold Program.keyLits
  rw [Try.underlying5]
  simp [ha]
set_option maxRecDepth 100000 in
theorem lits_three {d : Nat} {a b c : Int} (ha : (Lit.int .u8 a).wf = true) (hb : (Lit.int .u8 b).wf = true) (hc : (Lit.int .u8 c).wf = true) : Try.prog.keyLits (d + 2) 57 [.int .u8 a, .int .u8 b, .int .u8 c] = some [.int .u8 a, .int .u8 b, .int .u8 c] := by
  have e2 : Try.prog.cellsOf 57 = 3 := by kernel_rfl
  have e3 : Try.prog.cellsOf 5 = 1 := by kernel_rfl
  unfold Program.keyLits
  rw [Try.underlying57]
  simp [e2, e3, lits_u8, ha, hb, hc, List.range, List.range.loop]
theorem keyOf_three {a b c : Int} (ha : (Lit.int .u8 a).wf = true) (hb : (Lit.int .u8 b).wf = true) (hc : (Lit.int .u8 c).wf = true) : keyOf Try.prog 57 (v3 a b c) = some (k3 a b c) := by
  have e2 : Try.prog.cellsOf 57 = 3 := by kernel_rfl
  have hd : ∃ d, Try.prog.types.size + 1 = d + 2 := ⟨Try.prog.types.size - 1, by
    have : decide (1 ≤ Try.prog.types.size) = true := by kernel_rfl
    have := of_decide_eq_true this
    omega⟩
  obtain ⟨d, hd⟩ := hd
  unfold keyOf
  rw [Try.underlying57, threeType, hd]
  simp [v3, Value.formed, Try.underlying57, e2, Value.cells, lits_three ha hb hc, k3]
theorem k3_inj {a b c a' b' c' : Int} (h1 : (Lit.int .u8 a).wf = true) (h2 : (Lit.int .u8 b).wf = true) (h3 : (Lit.int .u8 c).wf = true) (h4 : (Lit.int .u8 a').wf = true) (h5 : (Lit.int .u8 b').wf = true) (h6 : (Lit.int .u8 c').wf = true)
    (h : k3 a b c = k3 a' b' c') : a = a' ∧ b = b' ∧ c = c' := by
  have := threeKeyed.inj (keyOf_three h1 h2 h3) (by rw [h]; exact keyOf_three h4 h5 h6)
  simpa [v3] using this

theorem key_once {H : Type} {P : Program} {k : TypeId} {R : Value → Option (DataW H × List MemPlace)} {es : Array MapEntry} {clock : Nat} (F : Fit P k R es clock) {i j : Nat} {e0 e1 : MapEntry} (hi : es.toList[i]? = some e1) (hj : es.toList[j]? = some e0) (h : e1.key = e0.key) : i = j := by
  have hn : es.toList.Pairwise (fun x y => x.key ≠ y.key) := ((stamped_iff es clock).1 F.stamped).2.2
  rw [List.pairwise_iff_getElem] at hn
  obtain ⟨h1, rfl⟩ := List.getElem?_eq_some_iff.1 hi
  obtain ⟨h2, rfl⟩ := List.getElem?_eq_some_iff.1 hj
  rcases Nat.lt_trichotomy i j with hlt | rfl | hlt
  · exact absurd h (hn i j h1 h2 hlt)
  · rfl
  · exact absurd h.symm (hn j i h2 h1 hlt)

/-- what a store does is told by the map alone -/
theorem update_like {P : Program} {t k e : TypeId} (K : Keyed P k) (ht : P.underlying t = some (.map k e)) {w X : World} {b : Nat} {es es' : Array MapEntry} {clock clock' : Nat} (hb : w.heap[b]? = some (.map es clock)) (hX : X.heap[b]? = some (.map es clock))
    {H : Type} {R : Value → Option (DataW H × List MemPlace)} (F : Fit P k R es clock) {key val : Value} {kl : Lit} (hkey : keyOf P k key = some kl)
    (h : (Instr.mapUpdate t (.map (some b)) key val).run P w = .ok () (setBlock w b (.map es' clock'))) : (Instr.mapUpdate t (.map (some b)) key val).run P X = .ok () (setBlock X b (.map es' clock')) := by
  have same : ∀ (u : Array MapEntry) (cl : Nat), setBlock w b (.map u cl) = setBlock w b (.map es' clock') → u = es' ∧ cl = clock' := fun u cl hu => by
    have h1 := heap_setBlock_same hb (.map u cl)
    rw [hu, heap_setBlock_same hb] at h1
    simp only [Option.some.injEq, Obj.map.injEq] at h1
    exact ⟨h1.1.symm, h1.2.symm⟩
  rcases K.find w hkey es.toList F.keys with ⟨h1, h2⟩ | ⟨j, e0, h1, h2, h3⟩
  · have hw : (Instr.mapUpdate t (.map (some b)) key val).run P w = .ok () (setBlock w b (.map (es.push ⟨key, val, clock⟩) (clock + 1))) := by
      simp [Instr.mapUpdate, run_underlying ht, MapKept.run_getObj_map hb, K.check w false hkey, h1, MapKept.run_setObj_map _ hb, Result.andThen, setBlock]
    rw [h] at hw
    obtain ⟨rfl, rfl⟩ := same _ _ (Result.ok.inj hw).2.symm
    rcases K.find X hkey es.toList F.keys with ⟨g1, g2⟩ | ⟨j, e0, g1, g2, g3⟩
    · simp [Instr.mapUpdate, run_underlying ht, MapKept.run_getObj_map hX, K.check X false hkey, g1, MapKept.run_setObj_map _ hX, Result.andThen, setBlock]
    · exact absurd g3 (h2 e0 (List.mem_of_getElem? g2))
  · have hj : es[j]? = some e0 := by simpa using h2
    have hw : (Instr.mapUpdate t (.map (some b)) key val).run P w = .ok () (setBlock w b (.map (es.modify j (fun e' => { e' with key := key, val := val })) clock)) := by
      simp [Instr.mapUpdate, run_underlying ht, MapKept.run_getObj_map hb, K.check w false hkey, h1, hj, h3, K.stays w hkey, MapKept.run_setObj_map _ hb, Result.andThen, setBlock]
    rw [h] at hw
    obtain ⟨rfl, rfl⟩ := same _ _ (Result.ok.inj hw).2.symm
    rcases K.find X hkey es.toList F.keys with ⟨g1, g2⟩ | ⟨i, e1, g1, g2, g3⟩
    · exact absurd h3 (g2 e0 (List.mem_of_getElem? h2))
    · have hi : es[i]? = some e1 := by simpa using g2
      have hij : i = j := key_once F g2 h2 (by rw [g3, h3])
      subst hij
      simp [Instr.mapUpdate, run_underlying ht, MapKept.run_getObj_map hX, K.check X false hkey, g1, hi, g3, K.stays X hkey, MapKept.run_setObj_map _ hX, Result.andThen, setBlock]
/-- and so what a look-up answers -/
theorem look_like {P : Program} {t k e : TypeId} (K : Keyed P k) (ht : P.underlying t = some (.map k e)) {z : Value} (hz : ∀ u : World, (zeroValue e).run P u = .ok z u) {w X : World} {b : Nat} {es : Array MapEntry} {clock : Nat} (hb : w.heap[b]? = some (.map es clock)) (hX : X.heap[b]? = some (.map es clock))
    {H : Type} {R : Value → Option (DataW H × List MemPlace)} (F : Fit P k R es clock) {key v : Value} {kl : Lit} (hkey : keyOf P k key = some kl) (h : (Instr.lookup t (.map (some b)) key false).run P w = .ok v w) :
    (Instr.lookup t (.map (some b)) key false).run P X = .ok v X := by
  rcases K.find w hkey es.toList F.keys with ⟨h1, h2⟩ | ⟨j, e0, h1, h2, h3⟩
  · have hw : (Instr.lookup t (.map (some b)) key false).run P w = .ok z w := by
      simp [Instr.lookup, run_underlying ht, MapKept.run_getObj_map hb, K.check w _ hkey, h1, hz, Result.andThen]
    rw [h] at hw
    have hv := (Result.ok.inj hw).1
    subst hv
    rcases K.find X hkey es.toList F.keys with ⟨g1, g2⟩ | ⟨j, e0, g1, g2, g3⟩
    · simp [Instr.lookup, run_underlying ht, MapKept.run_getObj_map hX, K.check X _ hkey, g1, hz, Result.andThen]
    · exact absurd g3 (h2 e0 (List.mem_of_getElem? g2))
  · have hw : (Instr.lookup t (.map (some b)) key false).run P w = .ok e0.val w := by
      simp [Instr.lookup, run_underlying ht, MapKept.run_getObj_map hb, K.check w _ hkey, h1, Result.andThen]
    rw [h] at hw
    have hv := (Result.ok.inj hw).1
    subst hv
    rcases K.find X hkey es.toList F.keys with ⟨g1, g2⟩ | ⟨i, e1, g1, g2, g3⟩
    · exact absurd h3 (g2 e0 (List.mem_of_getElem? h2))
    · have hij : i = j := key_once F g2 h2 (by rw [g3, h3])
      subst hij
      rw [g2] at h2
      injection h2 with h2
      subst h2
      simp [Instr.lookup, run_underlying ht, MapKept.run_getObj_map hX, K.check X _ hkey, g1, Result.andThen]

/-- 'm[k] = append(m[k], x)': the entry is laid, its row is appended to, the entry is stored -/
theorem push_any {H : Type} {P : Program} {t k E e : TypeId} {q : IntKind} {w : World} {base b n : Nat} {D : DataW H} (KL : WideMaps.KeyLaw P k) (K : Keyed P k) (ht : P.underlying t = some (.map k E)) (hz : ∀ u : World, (zeroValue E).run P u = .ok (.slice none 0 0) u)
    (h : w.ownsGroups P k base e q b n D) (hn : n < maxLen) {key : Value} {kl : Lit} (hkey : keyOf P k key = some kl) :
    ∃ (v : Value) (zs : List Int) (st : Nat) (w1 : World), (Instr.mapEntry t (.map (some b)) key).run P w = .ok (.tuple #[v, goInt st]) w1 ∧ w.grownBy w1 (some b) ∧ D.atKey kl .nil = rowDatum q v zs ∧ w1.ownsInts base e q v zs ∧ zs.length ≤ n ∧ v.ownBlock ≠ some b ∧ b < base ∧
      ∀ (w2 : World) (v' : Value) (zs' : List Int), w1.grownBy w2 v.ownBlock → w2.ownsInts base e q v' zs' → zs'.length ≤ n + 1 → (v'.ownBlock = v.ownBlock ∨ ∃ g, v'.ownBlock = some g ∧ w1.heap.size ≤ g) →
        ∃ w3, (Instr.entryStore t (.map (some b)) (goInt st) v').run P w2 = .ok () w3 ∧ w3.ownsGroups P k base e q b (n + 1) (D.put kl (rowDatum q v' zs')) ∧ w2.grownBy w3 (some b) := by
  obtain ⟨v, zs, hrun, hat, hoi, hzl, hback⟩ := h.at K ht (hz w) hn hkey
  obtain ⟨es, clock, hb, F, hs, hD, hbb, hlen, hap⟩ := h
  have hblt : b < w.heap.size := (Array.getElem?_eq_some_iff.1 hb).1
  obtain ⟨v0, st, es1, clock1, hE, hv0, hS⟩ := WideElems.entry_then_store KL ht hz hb F hkey
  -- what the entry holds is what a look-up answers
  have hv : v0 = v := by
    rcases Maps.fit_look false K ht (hz w) hb F hkey with ⟨hr, hno, _⟩ | ⟨e0, y, hm0, h3, hr, _, _, _⟩
    · rw [hrun] at hr
      have h1 := (Result.ok.inj hr).1
      rcases hv0 with ⟨e0, hm0, he, rfl⟩ | ⟨_, rfl⟩
      · exact absurd he (hno e0 hm0)
      · simpa using h1.symm
    · rw [hrun] at hr
      have h1 := (Result.ok.inj hr).1
      rcases hv0 with ⟨e1, hm1, he, rfl⟩ | ⟨hno, rfl⟩
      · have hj := List.mem_iff_getElem?.1 hm0
        have hi := List.mem_iff_getElem?.1 hm1
        obtain ⟨j, hj⟩ := hj
        obtain ⟨i, hi⟩ := hi
        have hij := key_once F hi hj (by rw [he, h3])
        subst hij
        rw [hj] at hi
        injection hi with hi
        rw [← hi]; simpa using h1.symm
      · exact absurd h3 (hno e0 hm0)
  subst hv
  have hg1 : w.grownBy (setBlock w b (.map es1 clock1)) (some b) := ⟨rfl, rfl, rfl, by simp [setBlock], fun i hi hne => ChangeMaps.heap_setBlock_other hb _ (fun e => hne (by rw [e]))⟩
  have hvb : v0.ownBlock ≠ some b := fun e => by have := (hoi.1.lt b e).1; omega
  have hsz : (setBlock w b (.map es1 clock1)).heap.size = w.heap.size := by simp [setBlock]
  refine ⟨v0, zs, st, _, hE, hg1, hat, hoi.kept hg1 (.inr hvb), hzl, hvb, hbb, fun w2 v' zs' hg hown hl hloc => ?_⟩
  have hb2 : w2.heap[b]? = some (.map es1 clock1) := (hg.block b (by rw [hsz]; exact hblt) (fun e => hvb e.symm)).trans (heap_setBlock_same hb _)
  have hv'b : v'.ownBlock ≠ some b := fun e => by have := (hown.1.lt b e).1; omega
  obtain ⟨es', clock', hst, hup⟩ := hS w2 v' hb2
  -- the same row, the map as it was ahead of the entry
  obtain ⟨X, hX⟩ : ∃ X, setBlock w2 b (.map es clock) = X := ⟨_, rfl⟩
  have hXb : X.heap[b]? = some (.map es clock) := by rw [← hX]; exact heap_setBlock_same hb2 _
  have hgX : w.grownBy X v0.ownBlock := by
    have h1 := hg.size
    refine ⟨by rw [← hX]; exact hg.os, by rw [← hX]; exact hg.tape, by rw [← hX]; exact hg.output, by rw [← hX]; rw [hsz] at h1; simpa [setBlock] using h1, fun i hi hne => ?_⟩
    by_cases e : i = b
    · rw [e, hXb, hb]
    · rw [← hX, ChangeMaps.heap_setBlock_other hb2 _ e, hg.block i (by rw [hsz]; exact hi) hne, ChangeMaps.heap_setBlock_other hb _ e]
  have hg2 : w2.grownBy X (some b) := by
    rw [← hX]
    exact ⟨rfl, rfl, rfl, by simp [setBlock], fun i hi hne => ChangeMaps.heap_setBlock_other hb2 _ (fun e => hne (by rw [e]))⟩
  obtain ⟨w3, hr3, ho3, hg3⟩ := hback X v' zs' hgX (hown.kept hg2 (.inr hv'b)) hl (by rw [hsz] at hloc; exact hloc)
  have hr4 := update_like K ht hb hXb F hkey hup
  rw [hr3] at hr4
  have e3 := (Result.ok.inj hr4).2
  have e4 : setBlock X b (.map es' clock') = setBlock w2 b (.map es' clock') := by rw [← hX]; simp [setBlock]
  rw [e4] at e3
  refine ⟨w3, by rw [hst, ← e3], ho3, ?_⟩
  rw [e3]
  exact ⟨rfl, rfl, rfl, by simp [setBlock], fun i hi hne => ChangeMaps.heap_setBlock_other hb2 _ (fun e => hne (by rw [e]))⟩

/-- a row of places as numbers, and as data -/
def ri3 (l : List Int) (x : Int × Int × Int) (q : Nat) : List Int := (rowOf l x q).map (fun p : Nat => (p : Int))
def rdat (zs : List Int) : DataW Unit := if zs = [] then .nil else .slice (lits .i64 zs) []
theorem rdat_inj {v : Value} {zs rs : List Int} {w : World} {base : Nat} (h : w.ownsInts base 3 .i64 v zs) (e : rdat rs = rowDatum .i64 v zs) : zs = rs := by
  rcases h.datum (H := Unit) with ⟨h1, rfl⟩ | h1
  · rw [h1] at e
    unfold rdat at e
    split at e
    · rename_i h2; exact h2.symm
    · cases e
  · rw [h1] at e
    unfold rdat at e
    split at e
    · cases e
    · injection e with e1
      have hl : ∀ (a b : List Int), lits (H := Unit) .i64 a = lits .i64 b → a = b := by
        intro a
        induction a with
        | nil => intro b hb; cases b with
          | nil => rfl
          | cons y b => simp [lits] at hb
        | cons x a ih => intro b hb; cases b with
          | nil => simp [lits] at hb
          | cons y b =>
            simp [lits] at hb
            have := ih b (by simpa [lits] using hb.2)
            rw [hb.1, this]
      exact (hl _ _ e1).symm
/-- a map of the places of all three bytes ahead of one -/
def Rows (W : World) (M : Nat) (l : List Int) (met : Nat) : Prop := ∃ D : DataW Unit, W.ownsGroups Try.prog 57 (M + 1) 3 .i64 M met D ∧
  ∀ x y z : Int, U8 x → U8 y → U8 z → D.atKey (k3 x y z) .nil = rdat (ri3 l (x, y, z) met)
theorem U8_lit {x : Int} (h : U8 x) : (Lit.int .u8 x).wf = true := by unfold U8 at h; exact WalkArith.wf_u8 (by omega)
theorem zero_ints (u : World) : (zeroValue 58).run Try.prog u = .ok (.slice none 0 0) u := by kernel_rfl
theorem Rows.new (W : World) (l : List Int) : Rows (W.alloc (.map #[] 0)) W.heap.size l 0 :=
  ⟨_, World.ownsGroups_made _ _ _ _ _, fun x y z _ _ _ => by simp [ri3, rowOf, rdat, DataW.atKey]⟩
end Go.Proofs.Ytaohkakefdhecaa
