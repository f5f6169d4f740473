/-
  What holds no bytes lies as it lay where bytes are put behind others. Nothing of one statement alone stands here.
-/
import Derived.Test.YtaohkakefdhecaaSqItem
namespace Go.Proofs.Ytaohkakefdhecaa
open Go.RowKit Crcm Sqm Go.ChangeShapes

/-- what holds no bytes lies as it lay -/
def Kn (w w' : World) : Prop := (∀ (r : Nat) (o : Obj), w.heap[r]? = some o → (∀ cs fr, o ≠ Obj.cells cs 5 fr) → w'.heap[r]? = some o) ∧ w.heap.size ≤ w'.heap.size
theorem Kn.refl (w : World) : Kn w w := ⟨fun _ _ h _ => h, Nat.le_refl _⟩
theorem Kn.trans {A B C : World} (h : Kn A B) (k : Kn B C) : Kn A C := ⟨fun r o ho hn => k.1 r o (h.1 r o ho hn) hn, Nat.le_trans h.2 k.2⟩
theorem Kn.below {w w' : World} (h : Below w.heap.size w w') : Kn w w' := ⟨fun r _ ho _ => (h.block r (Array.getElem?_eq_some_iff.1 ho).1).trans ho, h.size⟩
theorem Kn.alloc (w : World) (o : Obj) : Kn w (w.alloc o) := Kn.below ((Below.refl _ _).alloc (Nat.le_refl _) o)
theorem Kn.set {w W : World} (h : Kn w W) {p : Addr} (hp : w.heap.size ≤ p.block) (v : Value) : Kn w (W.setCell p v) :=
  ⟨fun r o ho hn => (Below.heap_setCell _ _ _ _ (by have := (Array.getElem?_eq_some_iff.1 ho).1; omega)).trans (h.1 r o ho hn), by simpa [World.setCell] using h.2⟩
theorem Kn.others {w w' : World} (h : Kn w w') : KeepsOthers w w' := ⟨h.2, fun i o hi ho => h.1 i o hi (fun cs fr e => by rw [e] at ho; cases ho)⟩
theorem Kn.grown {w w' : World} {base k : Nat} {v : Value} {xs : List Value} (h : w.ownsRow base 5 1 v k xs) (hg : w.grownBy w' v.ownBlock) : Kn w w' :=
  ⟨fun r o ho hn => (hg.block r (Array.getElem?_eq_some_iff.1 ho).1 (fun e => by
    rcases h.2 with ⟨h0, _⟩ | ⟨g', cap, cur, h0, _, hgg, _⟩
    · rw [h0] at e; simp [Value.ownBlock] at e
    · rw [h0] at e
      simp [Value.ownBlock] at e
      subst e
      rw [hgg] at ho
      exact hn _ _ (by injection ho with ho; exact ho.symm))).trans ho, hg.size⟩
theorem own_blk_ne {w : World} {base k S : Nat} {v : Value} {xs : List Value} {e t : TypeId} {cs : Array Value} (h : w.ownsRow base e 1 v k xs) (hb : Blk w S t cs) (ht : e ≠ t) : v.ownBlock ≠ some S := fun e1 => by
  rcases h.2 with ⟨h0, _⟩ | ⟨g', cap, cur, h0, _, hgg, _⟩
  · rw [h0] at e1; simp [Value.ownBlock] at e1
  · rw [h0] at e1
    simp [Value.ownBlock] at e1
    subst e1
    unfold Blk at hb
    rw [hgg] at hb
    injection hb with hb
    injection hb with _ h2
    exact ht h2
set_option maxRecDepth 100000 in
set_option maxHeartbeats 1000000 in
/-- a copy's three bytes behind others -/
theorem appendCopy_kn (n d B k : Nat) (v u : Value) (xs : List Int) (w : World) (hB : B ≤ w.heap.size) (hown : w.ownsRow B 5 1 v k (xs.map (Value.int .u8))) (h1 : 3 ≤ n) (h2 : n ≤ 130) (h3 : d ≤ 4096) (h4 : k + 3 ≤ 4000000) :
    Calls Try.prog 20 #[v, itv n d u] w fun e w' => (∃ v', e = .returned v' ∧ w'.ownsRow B 5 1 v' (k + 3) ((xs ++ [((n + 125 : Nat) : Int), ((d % 256 : Nat) : Int), ((d / 256 : Nat) : Int)]).map (Value.int .u8))) ∧ Below B w w' ∧ Kn w w' := by
  obtain ⟨a0, c0, rfl⟩ := own_slice hown
  obtain ⟨W1, hW1⟩ : ∃ W1, w.alloc (.cells #[.int .i64 (n : Int), .int .i64 (d : Int), u] 43) = W1 := ⟨_, rfl⟩
  have hz1 : W1.heap.size = w.heap.size + 1 := by rw [← hW1]; simp
  have hb1 : Below B w W1 := by rw [← hW1]; exact ((Below.refl _ _).alloc (Nat.le_refl _) _).mono hB
  have ho1 := hown.alloc (.cells #[.int .i64 (n : Int), .int .i64 (d : Int), u] 43)
  have HO := Lib.hid ho1
  have HB := Lib.hid hb1
  have HW1 := Lib.hid hW1
  unfold itv
  clear hown hb1 ho1 hW1
  go_enter Try.func20, Try.ntmps20
  have hu3 : ∀ x ∈ [128 + (n : Int) - 3, (d : Int) % 256, (d : Int) / 256], U8 x := by
    intro x hx
    unfold U8
    simp at hx
    rcases hx with rfl | rfl | rfl <;> omega
  have HS : Hid (Src ((w.alloc (.cells #[.int .i64 (n : Int), .int .i64 (d : Int), u] 43)).alloc (.cells #[.int .u8 (128 + (n : Int) - 3), .int .u8 ((d : Int) % 256), .int .u8 ((d : Int) / 256)] 5)) (some ⟨w.heap.size + 1, 0, none⟩) [128 + (n : Int) - 3, (d : Int) % 256, (d : Int) / 256]) := Lib.hid (.inr ⟨_, rfl, fun j hj => by
    have hb := Blk.new (w.alloc (.cells #[.int .i64 (n : Int), .int .i64 (d : Int), u] 43)) 5 #[.int .u8 (128 + (n : Int) - 3), .int .u8 ((d : Int) % 256), .int .u8 ((d : Int) / 256)]
    rw [World.size_alloc] at hb
    have := hb.cell j
    simp at hj
    rw [show (⟨w.heap.size + 1, 0, none⟩ : Addr).add j = ⟨w.heap.size + 1, j, none⟩ by simp [Addr.add]; intro h; exact h.symm, this]
    rcases (by omega : j = 0 ∨ j = 1 ∨ j = 2) with rfl | rfl | rfl <;> rfl⟩)
  go_wp2_with (at_builtin; refine app8 rfl _ _ rfl B _ k xs rfl (HO.out.alloc _) (some ⟨w.heap.size + 1, 0, none⟩) 3 3 [128 + (n : Int) - 3, (d : Int) % 256, (d : Int) / 256] rfl rfl HS.out (by omega) (by simp; omega) ?_; intro v' w' hown' hb' hg' _)
  have HKO : Hid (Kn w w') := Lib.hid (((Kn.alloc w _).trans (Kn.alloc _ _)).trans (Kn.grown (HO.out.alloc _) hg'))
  obtain ⟨A2, c2, rfl⟩ := own_slice hown'
  rw [show 128 + (n : Int) - 3 = ((n + 125 : Nat) : Int) by omega, show (d : Int) % 256 = ((d % 256 : Nat) : Int) by omega, show (d : Int) / 256 = ((d / 256 : Nat) : Int) by omega] at hown'
  have HO2 := Lib.hid hown'
  have HB2 : Hid (Below B w w') := Lib.hid ((((Below.refl _ _).alloc hB _).alloc (by simp; omega) _).trans hb')
  clear hown' hb' hg'
  go_wp2
  go_ret
  exact ⟨⟨_, rfl, HO2.out⟩, HB2.out, HKO.out⟩
end Go.Proofs.Ytaohkakefdhecaa
