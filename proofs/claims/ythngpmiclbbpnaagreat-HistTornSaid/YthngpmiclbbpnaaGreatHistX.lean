/-
  Operations' bytes read: what they are; the reader, and how it gives up. Nothing of one statement alone stands here.
-/
import Derived.Test.YthngpmiclbbpnaaGreatHistA
import Derived.WalkLawsBesides
namespace Go.Proofs.YthngpmiclbbpnaaGreat
open Go.RowKit Crcm Tagm Go.ChangeShapes

/-- so many bytes taken -/
def tkB (n : Nat) (l : List Int) : Option (List Int × List Int) := if n ≤ l.length then some (l.take n, l.drop n) else none
/-- a number taken -/
def nmB (n : Nat) (l : List Int) : Option (Int × List Int) := if n ≤ l.length then some (nu (l.take n), l.drop n) else none
/-- bytes with how many they are ahead -/
def ctB (n : Nat) (l : List Int) : Option (List Int × List Int) := (nmB n l).bind fun x => tkB x.1.toNat x.2
def sgn (x : Int) : Int := IntKind.i64.wrap (IntKind.i32.wrap x)
/-- an operation taken -/
def opB (l : List Int) : Option (Ho × List Int) :=
  (nmB 1 l).bind fun k => (ctB 1 k.2).bind fun p => (ctB 1 p.2).bind fun t => (nmB 4 t.2).bind fun h => (nmB 4 h.2).bind fun n => (nmB 8 n.2).bind fun f => (ctB 2 f.2).bind fun b =>
    if Rg ⟨k.1, strOfNums p.1, strOfNums t.1, sgn h.1, sgn n.1, IntKind.i64.wrap f.1, b.1⟩ then some (⟨k.1, strOfNums p.1, strOfNums t.1, sgn h.1, sgn n.1, IntKind.i64.wrap f.1, b.1⟩, b.2) else none
def opsB : Nat → List Int → Option (List Ho × List Int)
  | 0, l => some ([], l)
  | n + 1, l => (opB l).bind fun o => (opsB n o.2).map fun r => (o.1 :: r.1, r.2)
/-- all operations -/
def allB (l : List Int) : Option (List Ho) :=
  (tkB 4 l).bind fun m => if m.1 = [72, 73, 83, 84] then (nmB 4 m.2).bind fun c => if c.1 ≤ 4096 then (opsB c.1.toNat c.2).bind fun r => if r.2 = [] then some r.1 else none else none else none

/-- nothing has turned but a block -/
structure Ko (R : Nat) (w w' : World) : Prop where
  os : w'.os = w.os
  tape : w'.tape = w.tape
  output : w'.output = w.output
  size : w.heap.size ≤ w'.heap.size
  block : ∀ k, k < w.heap.size → k ≠ R → w'.heap[k]? = w.heap[k]?
theorem Ko.refl (R : Nat) (w : World) : Ko R w w := ⟨rfl, rfl, rfl, Nat.le_refl _, fun _ _ _ => rfl⟩
theorem Ko.trans {R : Nat} {a b c : World} (h : Ko R a b) (k : Ko R b c) : Ko R a c :=
  ⟨k.os.trans h.os, k.tape.trans h.tape, k.output.trans h.output, Nat.le_trans h.size k.size, fun i hi hr => (k.block i (Nat.lt_of_lt_of_le hi h.size) hr).trans (h.block i hi hr)⟩
theorem Ko.of_below {R : Nat} {w w' : World} (h : Below w.heap.size w w') : Ko R w w' := ⟨h.os, h.tape, h.output, h.size, fun k hk _ => h.block k hk⟩
theorem Ko.set (R : Nat) (w : World) (v : Value) : Ko R w (w.setCell ⟨R, 0, none⟩ v) :=
  ⟨rfl, rfl, rfl, by simp [World.setCell], fun k _ hk => Below.heap_setCell w ⟨R, 0, none⟩ v k hk⟩
theorem Ko.below {R B : Nat} {w w' : World} (h : Ko R w w') (hB : B ≤ w.heap.size) (hR : B ≤ R) : Below B w w' :=
  ⟨h.os, h.tape, h.output, h.size, fun k hk => h.block k (Nat.lt_of_lt_of_le hk hB) (by omega)⟩
theorem Ko.cell {R : Nat} {w w' : World} (h : Ko R w w') {p : Addr} {v : Value} (hc : w.cell? p = some v) (hp : p.block ≠ R) : w'.cell? p = some v :=
  (World.cell?_of_block (w := w) (h.block p.block (block_lt_of_cell hc) hp)).trans hc
theorem Blk.ko {R : Nat} {w w' : World} {g : Nat} {t : TypeId} {cs : Array Value} (h : Blk w g t cs) (hk : Ko R w w') (hg : g ≠ R) : Blk w' g t cs := (hk.block g h.lt hg).trans h
/-- bytes that lie ahead of the reader's block -/
def Rq (w : World) (R : Nat) (a : Option Addr) (l : List Int) : Prop := Rw w a l ∧ ∀ b off s, a = some ⟨b, off, s⟩ → l ≠ [] → b < R
theorem Rq.ko {R : Nat} {w w' : World} {a : Option Addr} {l : List Int} (h : Rq w R a l) (hk : Ko R w w') : Rq w' R a l := by
  obtain ⟨⟨h1, h2, h3⟩, h4⟩ := h
  refine ⟨⟨h1, h2, ?_⟩, h4⟩
  rcases h3 with h3 | ⟨b, off, rfl, h3⟩
  · exact .inl h3
  · exact .inr ⟨b, off, rfl, fun i hi => hk.cell (h3 i hi) (by have := h4 b off none rfl (fun e => by rw [e] at hi; simp at hi); show b ≠ R; omega)⟩
theorem Rq.take {R : Nat} {w : World} {a : Option Addr} {l : List Int} (h : Rq w R a l) (n : Nat) : Rq w R a (l.take n) :=
  ⟨h.1.take n, fun b off s e hl => h.2 b off s e (fun g => hl (by rw [g]; simp))⟩
theorem Rq.mv {R : Nat} {w : World} {a : Option Addr} {l : List Int} (h : Rq w R a l) (n cap : Nat) (hc : l.length ≤ cap) : Rq w R (mv a cap n) (l.drop n) := by
  refine ⟨h.1.mv n cap hc, fun b off s e hl => ?_⟩
  have hl2 : l ≠ [] := fun g => hl (by rw [g]; simp)
  unfold Go.Proofs.YthngpmiclbbpnaaGreat.mv at e
  split at e
  · exact h.2 b off s e hl2
  · cases a with
    | none => cases e
    | some ad =>
      obtain ⟨b', off', s'⟩ := ad
      simp [Addr.add] at e
      have e1 : b' = b := by split at e <;> (injection e)
      subst e1
      exact h.2 b' off' s' rfl hl2
/-- a reader: what is left of its bytes -/
def Rd (w : World) (R : Nat) (l : List Int) : Prop := ∃ a c, Blk w R 74 #[.slice a l.length c] ∧ l.length ≤ c ∧ c ≤ maxLen ∧ Rq w R a l

theorem Rq.above {R : Nat} {w w' : World} {a : Option Addr} {l : List Int} (h : Rq w R a l) (hb : Below (R + 1) w w') : Rq w' R a l := by
  obtain ⟨⟨h1, h2, h3⟩, h4⟩ := h
  refine ⟨⟨h1, h2, ?_⟩, h4⟩
  rcases h3 with h3 | ⟨b, off, rfl, h3⟩
  · exact .inl h3
  · exact .inr ⟨b, off, rfl, fun i hi => (hb.cell (p := ⟨b, off + i, none⟩) (by have := h4 b off none rfl (fun e => by rw [e] at hi; simp at hi); show b < R + 1; omega)).trans (h3 i hi)⟩
theorem Rd.above {R : Nat} {w w' : World} {l : List Int} (h : Rd w R l) (hb : Below (R + 1) w w') : Rd w' R l := by
  obtain ⟨a, c, h1, h2, h3, h4⟩ := h
  exact ⟨a, c, h1.below hb (Nat.lt_succ_self _), h2, h3, h4.above hb⟩
theorem Rd.lt {R : Nat} {w : World} {l : List Int} (h : Rd w R l) : R < w.heap.size := by
  obtain ⟨a, c, h1, -⟩ := h
  exact h1.lt
theorem Rd.len {R : Nat} {w : World} {l : List Int} (h : Rd w R l) : l.length ≤ maxLen ∧ ∀ x ∈ l, U8 x := by
  obtain ⟨a, c, h1, h2, h3, h4⟩ := h
  exact ⟨by omega, h4.1.1⟩
/-- what a reader that gives up panics with -/
def pv : Value := .iface 71 (.agg #[.int .i64 50])
def pE : Ending := .panicked [{ v := pv, recovered := false }]

set_option maxRecDepth 100000 in
theorem must_yes (w : World) : Calls Tryz.prog 53 #[.bool true] w fun e w' => e = .returned (.tuple #[]) ∧ w = w' := by
  go_enter Tryz.func53, Tryz.ntmps53
  go_wp2
  go_end0
  exact ⟨rfl, rfl⟩
set_option maxRecDepth 100000 in
theorem must_no (w : World) : Calls Tryz.prog 53 #[.bool false] w fun e w' => e = pE ∧ w = w' := by
  go_enter Tryz.func53, Tryz.ntmps53
  go_wp2
  exact ⟨rfl, rfl, rfl⟩

theorem cutH (a : Option Addr) (n c k : Nat) (hk : k ≤ c) (W : World) : (Instr.slice 23 (.slice a n c) none (some (.int .i64 k)) none).run Tryz.prog W = .ok (.slice a k c) W := by
  have elem8 : Tryz.prog.elem 23 = 5 := by simp [Program.elem, Tryz.underlying23]
  have he : Tryz.prog.underlying 23 = some (.slice (Tryz.prog.elem 23)) := by rw [elem8, Tryz.underlying23]
  rw [run_slice_h W _ _ _ _ he .i64 _ (by omega) (by omega), elem8, Tryz.sizeOf5]
  rcases a with _ | ⟨b, off, sp⟩ <;> simp [Result.andThen, sliced, Addr.add]
theorem restH (a : Option Addr) (n c k : Nat) (hk : k ≤ n) (W : World) : (Instr.slice 23 (.slice a n c) (some (.int .i64 k)) none none).run Tryz.prog W = .ok (.slice (mv a c k) (n - k) (c - k)) W := by
  have elem8 : Tryz.prog.elem 23 = 5 := by simp [Program.elem, Tryz.underlying23]
  have he : Tryz.prog.underlying 23 = some (.slice (Tryz.prog.elem 23)) := by rw [elem8, Tryz.underlying23]
  rw [run_slice_l W _ _ _ _ he .i64 _ (by omega) (by omega), elem8, Tryz.sizeOf5]
  unfold mv
  rcases a with _ | ⟨b, off, sp⟩ <;> by_cases hne : c = k <;> simp [Result.andThen, sliced, hne, Addr.add]

set_option maxRecDepth 100000 in
set_option maxHeartbeats 1000000 in
theorem take_yes {w : World} {R : Nat} {l : List Int} (h : Rd w R l) (n : Nat) (hn : n ≤ l.length) :
    Calls Tryz.prog 54 #[.pointer (some ⟨R, 0, none⟩), .int .i64 n] w fun e w' => (∃ a c, e = .returned (.slice a n c) ∧ n ≤ c ∧ Rq w' R a (l.take n)) ∧ Rd w' R (l.drop n) ∧ Ko R w w' := by
  obtain ⟨a, c, hb, hc, hm, hr⟩ := h
  have q0 : w.cell? ⟨R, 0, none⟩ = some (.slice a l.length c) := hb.cell 0
  have f0 := hb.frozen 0
  have HMy := Lib.hid (fun W => must_yes W)
  obtain ⟨m, hl⟩ : ∃ m, l.length = m := ⟨_, rfl⟩
  have m9 : m ≤ 9223372036854775807 := by unfold maxLen at hm; omega
  have hk1 := Ko.set R w (.slice (mv a c n) (m - n) (c - n))
  have HEnd : Hid ((n ≤ c ∧ Rq (w.setCell ⟨R, 0, none⟩ (.slice (mv a c n) (m - n) (c - n))) R a (l.take n)) ∧ Rd (w.setCell ⟨R, 0, none⟩ (.slice (mv a c n) (m - n) (c - n))) R (l.drop n) ∧ Ko R w (w.setCell ⟨R, 0, none⟩ (.slice (mv a c n) (m - n) (c - n)))) := Lib.hid
    ⟨⟨by omega, (hr.take n).ko hk1⟩, ⟨mv a c n, c - n, by rw [List.length_drop, hl]; exact hb.put 0 _, by rw [List.length_drop]; omega, by omega, (hr.mv n c hc).ko hk1⟩, hk1⟩
  have e1 := cutH a m c n (by omega)
  have e2 := restH a m c n (by omega)
  have t1 : decide (n ≤ m) = true := decide_eq_true (by omega)
  rw [hl] at q0
  clear hb hc hm hr hn hl hk1
  go_enter Tryz.func54, Tryz.ntmps54
  go_wp2_with fail
  refine (HMy.out _).mono ?_
  rintro e w' ⟨rfl, rfl⟩
  go_wp2
  go_ret
  exact ⟨⟨a, c, rfl, HEnd.out.1⟩, HEnd.out.2⟩
set_option maxRecDepth 100000 in
set_option maxHeartbeats 1000000 in
theorem take_no {w : World} {R : Nat} {l : List Int} (h : Rd w R l) (n : Nat) (hn : ¬ n ≤ l.length) :
    Calls Tryz.prog 54 #[.pointer (some ⟨R, 0, none⟩), .int .i64 n] w fun e w' => e = pE ∧ Ko R w w' := by
  obtain ⟨a, c, hb, hc, hm, hr⟩ := h
  have q0 : w.cell? ⟨R, 0, none⟩ = some (.slice a l.length c) := hb.cell 0
  have HMn := Lib.hid (fun W => must_no W)
  obtain ⟨m, hl⟩ : ∃ m, l.length = m := ⟨_, rfl⟩
  have m9 : m ≤ 9223372036854775807 := by unfold maxLen at hm; omega
  have t1 : decide (n ≤ m) = false := decide_eq_false (by omega)
  rw [hl] at q0
  clear hb hc hm hr hn hl
  go_enter Tryz.func54, Tryz.ntmps54
  go_wp2_with fail
  refine (HMn.out _).mono ?_
  rintro e w' ⟨rfl, rfl⟩
  exact ⟨rfl, rfl, Ko.refl _ _⟩

end Go.Proofs.YthngpmiclbbpnaaGreat
