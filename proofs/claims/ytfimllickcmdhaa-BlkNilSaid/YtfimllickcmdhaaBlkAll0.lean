/-
  The blocks of a manager that is not there: none are handed on. Nothing of one statement alone stands here.
-/
import Derived.Test.YtfimllickcmdhaaBlkNone
import Derived.RangeFuncNested
import Derived.RangeFuncCalls
import Derived.RangeFuncBox
import Derived.RangeFuncLeaves
import Derived.RangeFuncWrites
import Derived.Shelf.Abstract
import Derived.OwnWalkIn
import Derived.TacticsInMore
import Derived.LoopNIn
import Derived.LoopIn
namespace Go.Proofs.Ytfimllickcmdhaa
open Go.RowKit Go.ChangeShapes

theorem bl_equalIn_func_nil (w : World) (n : Nat) (t : TypeId) (d : TypeDesc) (h : Try.prog.underlying t = some d) (hd : ∃ a b c, d = .func a b c) (f : Fn) (b l : Array Value) : (Op.equalIn (n + 1) t (.func f b l) .nilFunc).run Try.prog w = .ok false w := by
  obtain ⟨x, y, z, rfl⟩ := hd
  simp [Op.equalIn, run_underlying h]
theorem bl_eql_func_nil (w : World) (t : TypeId) (d : TypeDesc) (h : Try.prog.underlying t = some d) (hd : ∃ a b c, d = .func a b c) (f : Fn) (b l : Array Value) : (binOp .eql t (.func f b l) .nilFunc).run Try.prog w = .ok (.bool false) w := by
  simp only [binOp]
  simp [Op.equal, Op.maxDepth, bl_equalIn_func_nil w 9999 t d h hd f b l]

/-- no blocks: nothing is handed on -/
theorem all0_stops (n : Nat) (Bn n₀ : Nat) (w : World) (hBn : Bn < w.heap.size) (hc : w.cell? ⟨Bn, 0, none⟩ = some (.slice none 0 0)) :
    SeqStopsK Fence.wide n Try.prog 96 #[.pointer (some ⟨Bn, 0, none⟩)] (fun x : Empty => nomatch x) (Below n₀) (fun xs => xs = []) (fun _ => False) 0 w := fun l J Jx W hW hJ _ hY h0 => by
  have hcell := (hW.cell (p := ⟨Bn, 0, none⟩) hBn).trans hc
  clear hJ hY hc
  refine callsIn_of_wp Try.func96 rfl trivial ?_ rfl
  simp only [Try.ntmps96, List.size_toArray, List.length_cons, List.length_nil, Nat.reduceAdd, Nat.reduceSub, Array.replicate_succ, Array.replicate_zero, List.push_toArray, List.append_toArray, List.nil_append, List.cons_append]
  gi_wp2_with fail
  gi_loopw [7] (fun s7 wr => s7 = .int .i64 0 ∧ J [] wr) (fun _ _ => 0)
  case atStart => exact ⟨rfl, h0⟩
  case round =>
    obtain ⟨rfl, hj⟩ := hrel
    gi_wp2
    go_end0
    exact ⟨⟨_, rfl⟩, .inl ⟨[], rfl, hj⟩⟩

/-- a loop over a function that hands on nothing -/
theorem wpIn_rangeFunc_zero {F : Fence} {n : Nat} {P : Program} {g : Operand} {ps : Array Tmp} {assign body : Code} {Q : Exit → Act → World → Prop} {a : Act} {w : World}
    (hro : F.round = none) (h1 : 1 ≤ n) {gf : Nat} {lb : Array Value} (hg : a.eval g = .func (.func gf) #[] lb) (hFg : F.fn gf) (eg : ∀ args w, (callFunc gf args).run P w = .ok (.enter gf args) w)
    {encs : Empty → Array Value} {Kp : World → World → Prop} (hseq : SeqStopsK F (n - 1) P gf lb encs Kp (fun xs => xs = []) (fun _ => False) 0 w)
    (hKt : ∀ {A B C : World}, Kp A B → Kp B C → Kp A C) (hKb : ∀ (W : World) (l : Nat) (o o' : Obj), w.heap.size ≤ l → W.heap[l]? = some o → o.isCells = false → o.isWalk = false → Kp W (W.putObj l o'))
    (I : World → Prop) (hI : OwnFrom w.heap.size (fun (_ : List Empty) W => I W)) (h0 : I w)
    (hdone : ∀ (D : Nat) (W : World), w.heap.size ≤ D → I W → W.heap[D]? = some (.deferred (some [])) → Q .normal { a with defers := { target := .collected D, args := #[] } :: a.defers } W) :
    (Code.rangeFunc g ps assign body).wpIn F n P Q a w :=
  wpIn_rangeFunc_ownG hro h1 hg hFg eg hseq hKt hKb (Below.refl _ _) (fun x => nomatch x) (fun _ W => I W) (fun _ _ _ => False) hI (fun _ => ownFrom_pure _ (fun _ => False)) h0
    (fun x => nomatch x)
    (fun _ x => nomatch x)
    (fun _ _ x => nomatch x) (fun D _ W hD _ hi hk => hdone D W hD hi hk) (fun _ _ _ _ _ h => h.elim)

set_option maxRecDepth 100000 in
set_option maxHeartbeats 2000000 in
theorem all0_any (w : World) : Calls Try.prog 23 #[.pointer none] w fun e w' => e = .returned (.slice none 0 0) ∧ Below w.heap.size w w' := by
  have HAl := Lib.hid (fun W => bnil_all W)
  have hfn := fun W f b l => bl_eql_func_nil W 106 _ Try.underlying106 ⟨_, _, _, rfl⟩ f b l
  refine (callsIn_wide (n := 5)).1 ?_
  refine callsIn_of_wp_marks Try.func23 rfl trivial ?_ rfl
  simp only [Try.ntmps23, List.size_toArray, List.length_cons, List.length_nil, Nat.reduceAdd, Nat.reduceSub, Array.replicate_succ, Array.replicate_zero, List.push_toArray, List.append_toArray, List.nil_append, List.cons_append]
  refine wpIn_wide.2 ?_
  go_wp2_with fail
  refine (HAl.out _).mono ?_
  rintro r w' ⟨rfl, rfl⟩
  go_wp2_with fail
  have bP : ((w.alloc (.cells #[.slice none 0 0] 57)).alloc (.cells #[.slice none 0 0] 57)).cell? ⟨w.heap.size + 1, 0, none⟩ = some (.slice none 0 0) := by
    have := Boxed.cell (Boxed.new (w.alloc (.cells #[.slice none 0 0] 57)) 57 (.slice none 0 0))
    rw [World.size_alloc] at this
    exact this
  have bN := Boxed.new w 57 (.slice none 0 0)
  have hB0 : Below w.heap.size w ((w.alloc (.cells #[.slice none 0 0] 57)).alloc (.cells #[.slice none 0 0] 57)) := ((Below.refl _ w).alloc (Nat.le_refl _) _).alloc (by simp) _
  refine (wpIn_wide (n := 5)).1 ?_
  refine wpIn_rangeFunc_zero rfl (by omega) (gf := 96) (lb := #[.pointer (some ⟨w.heap.size + 1, 0, none⟩)]) rfl trivial (enters_of Try.func96 (by kernel_rfl) rfl)
    (all0_stops 4 (w.heap.size + 1) w.heap.size _ (by simp) bP) belowK_t (belowK_b (by simp; omega))
    (fun W => Boxed W w.heap.size 57 (.slice none 0 0) ∧ Below w.heap.size w W)
    (OwnFrom.and (Own.from (boxed_own w.heap.size 57 (fun _ => .slice none 0 0)) _) (ownFrom_below (Nat.le_refl _) (by simp; omega)))
    ⟨bN.alloc _, hB0⟩ ?done
  case done =>
    rintro D W hD ⟨hb, hB⟩ hK
    have hc := hb.cell
    have HB := Lib.hid hB
    have HK := Lib.hid hK
    have HD := Lib.hid hD
    clear hB0 bN bP hb hB hK hD
    go_wp2
    refine ⟨by simp, .inl ⟨_, _, rfl, run_takeDeferred HK.out, ?_⟩⟩
    refine ⟨.slice none 0 0, by simp [results, Try.results23, go_sem], ?_⟩
    exact ⟨rfl, HB.out.trans (belowK_b (w := w) (Nat.le_refl _) W D _ _ (by have := HD.out; simp at this; omega) HK.out rfl rfl)⟩
end Go.Proofs.Ytfimllickcmdhaa
