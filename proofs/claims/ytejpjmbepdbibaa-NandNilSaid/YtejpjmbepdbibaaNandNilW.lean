/-
  The statement on a chip that is not there.
-/
import Derived.Test.YtejpjmbepdbibaaNandNone
import Derived.RangeFuncNested
import Derived.RangeFuncCalls
import Derived.RangeFuncBox
import Derived.RangeFuncLeaves
import Derived.RangeFuncWrites
import Derived.Shelf.Abstract
import Derived.OwnWalkIn
import Derived.TacticsInMore
import Derived.LoopNIn
import Derived.LoopIn
import Derived.WalkMore
namespace Go.Proofs.Ytejpjmbepdbibaa
open Go.RowKit Crcm Go.ChangeShapes

theorem run_equalIn_func_nil (w : World) (n : Nat) (t : TypeId) (d : TypeDesc) (h : Try.prog.underlying t = some d) (hd : ∃ a b c, d = .func a b c) (f : Fn) (b l : Array Value) : (Op.equalIn (n + 1) t (.func f b l) .nilFunc).run Try.prog w = .ok false w := by
  obtain ⟨x, y, z, rfl⟩ := hd
  simp [Op.equalIn, run_underlying h]
theorem run_eql_func_nil (w : World) (t : TypeId) (d : TypeDesc) (h : Try.prog.underlying t = some d) (hd : ∃ a b c, d = .func a b c) (f : Fn) (b l : Array Value) : (binOp .eql t (.func f b l) .nilFunc).run Try.prog w = .ok (.bool false) w := by
  simp only [binOp]
  simp [Op.equal, Op.maxDepth, run_equalIn_func_nil w 9999 t d h hd f b l]

/-- no pages: nothing is handed on -/
theorem pages0_stops (n : Nat) (Bn n₀ : Nat) (w : World) (hBn : Bn < w.heap.size) (hc : w.cell? ⟨Bn, 0, none⟩ = some (.slice none 0 0)) :
    SeqStopsK Fence.wide n Try.prog 59 #[.pointer (some ⟨Bn, 0, none⟩)] (fun _ : Unit => #[Value.int .i64 0, .slice none 0 0]) (Below n₀) (fun xs => xs = []) (fun _ => False) 0 w := fun l J Jx W hW hJ _ hY h0 => by
  have hcell := (hW.cell (p := ⟨Bn, 0, none⟩) hBn).trans hc
  clear hJ hY hc
  refine callsIn_of_wp Try.func59 rfl trivial ?_ rfl
  simp only [Try.ntmps59, List.size_toArray, List.length_cons, List.length_nil, Nat.reduceAdd, Nat.reduceSub, Array.replicate_succ, Array.replicate_zero, List.push_toArray, List.append_toArray, List.nil_append, List.cons_append]
  gi_wp2_with fail
  gi_loopw [7] (fun s7 wr => s7 = .int .i64 0 ∧ J [] wr) (fun _ _ => 0)
  case atStart => exact ⟨rfl, h0⟩
  case round =>
    obtain ⟨rfl, hj⟩ := hrel
    gi_wp2
    go_end0
    exact ⟨⟨_, rfl⟩, .inl ⟨[], rfl, hj⟩⟩

/-- a loop over a function that hands on nothing -/
theorem wpIn_rangeFunc_none {α : Type} {F : Fence} {n : Nat} {P : Program} {g : Operand} {ps : Array Tmp} {body : Code} {Q : Exit → Act → World → Prop} {a : Act} {w : World}
    (hro : F.round = none) (h1 : 1 ≤ n) {gf : Nat} {lb : Array Value} (hg : a.eval g = .func (.func gf) #[] lb) (hFg : F.fn gf) (eg : ∀ args w, (callFunc gf args).run P w = .ok (.enter gf args) w)
    {encs : α → Array Value} {Kp : World → World → Prop} (hseq : SeqStopsK F (n - 1) P gf lb encs Kp (fun xs => xs = []) (fun _ => False) 0 w)
    (hKt : ∀ {A B C : World}, Kp A B → Kp B C → Kp A C) (hKb : ∀ (W : World) (l : Nat) (o o' : Obj), w.heap.size ≤ l → W.heap[l]? = some o → o.isCells = false → o.isWalk = false → Kp W (W.putObj l o')) (hps : ∀ x, (encs x).size = ps.size)
    (I : World → Prop) (hI : OwnFrom w.heap.size (fun (_ : List α) W => I W)) (h0 : I w)
    (hdone : ∀ (D : Nat) (W : World), w.heap.size ≤ D → I W → W.heap[D]? = some (.deferred (some [])) → Q .normal { a with defers := { target := .collected D, args := #[] } :: a.defers } W) :
    (Code.rangeFunc g ps Code.skip body).wpIn F n P Q a w :=
  wpIn_rangeFunc_ownG hro h1 hg hFg eg hseq hKt hKb (Below.refl _ _) hps (fun _ W => I W) (fun _ _ _ => False) hI (fun _ => ownFrom_pure _ (fun _ => False)) h0
    (fun x => { tmps := (ps.zip (encs x)).foldl (fun t (p, v) => t.setIfInBounds p v) a.tmps, defers := [] })
    (fun _ _ _ _ hK => wpIn_skip hK)
    (fun _ _ _ _ _ hlt => absurd hlt (Nat.not_lt_zero _)) (fun D _ W hD _ hi hk => hdone D W hD hi hk) (fun _ _ _ _ _ h => h.elim)

set_option maxRecDepth 100000 in
set_option maxHeartbeats 4000000 in
theorem nandNil_walk (k p : Int) (a : Option Addr) (n c : Nat) (z : List Int) (w : World) (_hk : (Lit.int .i64 k).wf = true) (_hp : (Lit.int .i64 p).wf = true) (_hr : Row8 w a n c z) :
    Calls Try.prog 6 #[.int .i64 k, .int .i64 p, .slice a n c] w fun e w' => e = .returned (.bool true) ∧ Below w.heap.size w w' := by
  have HRd := Lib.hid (nil_read w k p)
  have HPg := Lib.hid (fun W => nil_pages W k)
  have HDu := Lib.hid (fun W => nil_dump W)
  have HLo := Lib.hid (fun W => nil_lose W)
  have HSt := Lib.hid (fun W => nil_start W)
  have HPr := Lib.hid (fun W => nil_program W k p a n c)
  have HEr := Lib.hid (fun W => nil_erase W k)
  have HMa := Lib.hid (fun W => nil_mark W k)
  have HSc := Lib.hid (fun W => nil_script W none 0 0)
  have HBa := Lib.hid (fun W => nil_bad W k)
  have HWe := Lib.hid (fun W => nil_wear W k)
  have HUp := Lib.hid (fun W => nil_up W)
  have HSk := Lib.hid (fun W => nil_strokes W)
  have HRe := Lib.hid (fun W => nil_reads W)
  have HCo := Lib.hid (fun W => nil_copy W)
  have HGe := Lib.hid (fun W => nil_geo W)
  have HKn := Lib.hid (fun W => knownN_any W)
  have hfn := fun W f b l => run_eql_func_nil W 52 _ Try.underlying52 ⟨_, _, _, rfl⟩ f b l
  clear _hk _hp _hr
  refine (callsIn_wide (n := 5)).1 ?_
  refine callsIn_of_wp_marks Try.func6 rfl trivial ?_ rfl
  simp only [Try.ntmps6, List.size_toArray, List.length_cons, List.length_nil, Nat.reduceAdd, Nat.reduceSub, Array.replicate_succ, Array.replicate_zero, List.push_toArray, List.append_toArray, List.nil_append, List.cons_append]
  refine wpIn_wide.2 ?_
  go_wp2_with fail
  refine HRd.out.mono ?_
  rintro r w' ⟨rfl, rfl⟩
  go_wp2_with fail
  refine (HPg.out _).mono ?_
  rintro r w' ⟨rfl, rfl⟩
  go_wp2_with fail
  have bN := Boxed.new w 3 (.int .i64 0)
  have bP : ((w.alloc (.cells #[.int .i64 0] 3)).alloc (.cells #[.slice none 0 0] 24)).cell? ⟨w.heap.size + 1, 0, none⟩ = some (.slice none 0 0) := by
    have := Boxed.cell (Boxed.new (w.alloc (.cells #[.int .i64 0] 3)) 24 (.slice none 0 0))
    rw [World.size_alloc] at this
    exact this
  have hB0 : Below w.heap.size w ((w.alloc (.cells #[.int .i64 0] 3)).alloc (.cells #[.slice none 0 0] 24)) := ((Below.refl _ w).alloc (Nat.le_refl _) _).alloc (by simp) _
  refine (wpIn_wide (n := 5)).1 ?_
  refine wpIn_rangeFunc_none rfl (by omega) (gf := 59) (lb := #[.pointer (some ⟨w.heap.size + 1, 0, none⟩)]) rfl trivial (enters_of Try.func59 (by kernel_rfl) rfl)
    (pages0_stops 4 (w.heap.size + 1) w.heap.size _ (by simp) bP) belowK_t (belowK_b (by simp; omega)) (fun _ => rfl)
    (fun W => Boxed W w.heap.size 3 (.int .i64 0) ∧ Below w.heap.size w W)
    (OwnFrom.and (Own.from (boxed_own w.heap.size 3 (fun _ => .int .i64 0)) _) (ownFrom_below (Nat.le_refl _) (by simp; omega)))
    ⟨bN.alloc _, hB0⟩ ?done
  case done =>
    rintro D W hD ⟨hb, hB⟩ hK
    have hc := hb.cell
    have HB := Lib.hid hB
    have HK := Lib.hid hK
    have HD := Lib.hid hD
    clear hB0 bN bP hb hB hK hD
    go_wp2_with fail
    refine (HDu.out _).mono ?_
    rintro r w' ⟨rfl, rfl⟩
    go_wp2_with fail
    refine (HLo.out _).mono ?_
    rintro r w' ⟨rfl, rfl⟩
    go_wp2_with fail
    refine (HSt.out _).mono ?_
    rintro r w' ⟨rfl, rfl⟩
    go_wp2_with fail
    refine (HPr.out _).mono ?_
    rintro r w' ⟨rfl, rfl⟩
    go_wp2_with fail
    refine (HEr.out _).mono ?_
    rintro r w' ⟨rfl, rfl⟩
    go_wp2_with fail
    refine (HMa.out _).mono ?_
    rintro r w' ⟨rfl, rfl⟩
    go_wp2_with fail
    refine (HSc.out _).mono ?_
    rintro r w' ⟨rfl, rfl⟩
    go_wp2_with fail
    refine (HBa.out _).mono ?_
    rintro r w' ⟨rfl, rfl⟩
    go_wp2_with fail
    refine (HWe.out _).mono ?_
    rintro r w' ⟨rfl, rfl⟩
    go_wp2_with fail
    refine (HUp.out _).mono ?_
    rintro r w' ⟨rfl, rfl⟩
    go_wp2_with fail
    refine (HSk.out _).mono ?_
    rintro r w' ⟨rfl, rfl⟩
    go_wp2_with fail
    refine (HRe.out _).mono ?_
    rintro r w' ⟨rfl, rfl⟩
    go_wp2_with fail
    refine (HCo.out _).mono ?_
    rintro r w' ⟨rfl, rfl⟩
    go_wp2_with fail
    refine (HGe.out _).mono ?_
    rintro r w2 ⟨rfl, hb2⟩
    have HB2 := Lib.hid hb2
    clear hb2
    go_wp2_with fail
    refine (HKn.out _).mono ?_
    rintro r w3 ⟨rfl, hb3⟩
    have HB3 := Lib.hid (HB2.out.trans (hb3.mono HB2.out.size))
    clear hb3
    go_wp2
    have hDl : D < W.heap.size := by
      rcases Nat.lt_or_ge D W.heap.size with h | h
      · exact h
      · have := HK.out; rw [Array.getElem?_eq_none h] at this; cases this
    have hK3 := (HB3.out.block D hDl).trans HK.out
    refine ⟨by simp, .inl ⟨_, _, rfl, run_takeDeferred hK3, ?_⟩⟩
    refine ⟨.bool true, by simp [results, Try.results6, go_sem], ?_⟩
    exact ⟨rfl, (HB.out.trans (HB3.out.mono HB.out.size)).trans (belowK_b (w := w) (Nat.le_refl _) w3 D _ _ (by have := HD.out; simp at this; omega) hK3 rfl rfl)⟩
end Go.Proofs.Ytejpjmbepdbibaa
