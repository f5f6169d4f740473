/-
  Operations' bytes as the document tells them. Nothing of one statement alone stands here.
-/
import Derived.Test.YthngpmiclbbpnaaGreatHistL
import Derived.Deep.RegionLaw
import Derived.Deep.CutRange
import Derived.Deep.DeepCutAuto
namespace Go.Proofs.YthngpmiclbbpnaaGreat
open Go.RowKit Crcm Tagm Go.ChangeShapes

theorem hwp_append {w : World} {o : Oper} {a : Act} {K : Act → World → Prop} {Q : Exit → Act → World → Prop} (s x : Operand)
    (ho : o.op = .call { callee := .builtin .append, args := #[s, x], argTypes := #[23, 23] })
    (base : Nat) (v : Value) (n : Nat) (xs : List Int) (hs : a.eval s = v) (hown : w.ownsRow base 5 1 v n (xs.map (Value.int .u8)))
    (A : Option Addr) (m c : Nat) (l : List Int) (hx : a.eval x = .slice A m c) (hl : l.length = m) (hr : Rw w A l) (h63 : n + m ≤ 1000000) (hbase : base ≤ w.heap.size)
    (h : ∀ v' w', w'.ownsRow base 5 1 v' (n + m) ((xs ++ l).map (Value.int .u8)) → Og v v' w w' → K (a.put o.dst v') w') : o.wp Tryz.prog a w K Q := by
  obtain ⟨i0, hi, hz0, hz1, hz2⟩ := info_parts Tryz.info8
  rcases hr.src with ⟨rfl, rfl⟩ | ⟨ad, rfl, hc⟩
  · simp at hl
    subst hl
    exact wp_append_nothing s x 23 ho base 5 i0 1 Tryz.underlying23 hi v n _ hs hown c hx (h v w (by simpa using hown) (Og.refl v w))
  · obtain ⟨v', w', hrun, h2, h3, h4, h5⟩ := run_append_own_at (P := Tryz.prog) w base 23 o.type 5 i0 (.int .u8 0) 1 1 Tryz.underlying23 hi hz0 hz1 hz2 rfl (by decide) v n _ hown ad m c (l.map (Value.int .u8)) (by simp [hl]) (fun j u hu => by
      rw [List.getElem?_map] at hu
      by_cases hj : j < l.length
      · rw [hc j hj]
        simpa [hj] using hu
      · simp [List.getElem?_eq_none (by omega : l.length ≤ j)] at hu) (fun u hu => by obtain ⟨n, -, rfl⟩ := List.mem_map.1 hu; rfl) (by unfold maxLen; omega) (by omega) hbase
    unfold Oper.wp execOp
    simp only [ho, resolve, invoke, builtin, Sem.run_bind, Sem.run_pure, Result.andThen_ok, List.map_toArray, List.map_cons, List.map_nil, hs, hx, hrun]
    rw [← List.map_append] at h2
    exact h v' w' h2 (Og.of_grown h3 h5)
theorem hstep {ops : Array Oper} {o : Oper} {a : Act} {w : World} {K : Act → World → Prop} {Q : Exit → Act → World → Prop} {E : Prop}
    (hg : o.guard = none) (s x : Operand) (hop : o.op = Op.call { callee := Callee.builtin Builtin.append, args := #[s, x], argTypes := #[23, 23] })
    (base : Nat) (v : Value) (n : Nat) (xs : List Int) (hs : a.eval s = v) (hown : w.ownsRow base 5 1 v n (xs.map (Value.int .u8)))
    (A : Option Addr) (m c : Nat) (l : List Int) (hx : a.eval x = .slice A m c) (hl : l.length = m) (hr : Rw w A l) (h63 : n + m ≤ 1000000) (hbase : base ≤ w.heap.size)
    (hK : ∀ v' w', w'.ownsRow base 5 1 v' (n + m) ((xs ++ l).map (Value.int .u8)) → Og v v' w w' → K (a.put o.dst v') w') :
    if Region.wanted o (yielded ops a.tmps) = true then Oper.wp Tryz.prog o a w K Q else E := by
  have hw : Region.wanted o (yielded ops a.tmps) = true := by simp [Region.wanted, hg]
  rw [if_pos hw]
  exact hwp_append s x hop base v n xs hs hown A m c l hx hl hr h63 hbase hK

/-- what stands while an operation's bytes are told: its box, its bytes, the row so far -/
structure Pq (base : Nat) (v0 : Value) (w0 W : World) (p : Nat) (cs : Array Value) (A : Option Addr) (l : List Int) (v : Value) (n : Nat) (xs : List Int) : Prop where
  box : Blk W p 36 cs
  ne : v.ownBlock ≠ some p
  src : Sx W v A l
  row : W.ownsRow base 5 1 v n (xs.map (Value.int .u8))
  og : Og v0 v w0 W
  bs : base ≤ W.heap.size
theorem Pq.next {base : Nat} {v0 : Value} {w0 W W' : World} {p : Nat} {cs : Array Value} {A : Option Addr} {l : List Int} {v v' : Value} {n n' : Nat} {xs xs' : List Int} (h : Pq base v0 w0 W p cs A l v n xs) (hr : W'.ownsRow base 5 1 v' n' (xs'.map (Value.int .u8))) (ho : Og v v' W W') : Pq base v0 w0 W' p cs A l v' n' xs' :=
  ⟨h.box.og ho h.ne, ho.ne h.box.lt h.ne, h.src.og ho, hr, h.og.trans ho, Nat.le_trans h.bs ho.size⟩
theorem Pq.below {base : Nat} {v0 : Value} {w0 W W' : World} {p : Nat} {cs : Array Value} {A : Option Addr} {l : List Int} {v : Value} {n : Nat} {xs : List Int} (h : Pq base v0 w0 W p cs A l v n xs) (hb : Below W.heap.size W W') : Pq base v0 w0 W' p cs A l v n xs :=
  h.next (own_below h.row hb) (Og.of_below v hb)
theorem Rw.new8 (w : World) (x : Int) (hx : U8 x) : Rw (w.alloc (.cells #[.int .u8 x] 5)) (some ⟨w.heap.size, 0, none⟩) [x] := by
  refine ⟨fun n hn => by simp at hn; rw [hn]; exact hx, by unfold maxLen; simp, .inr ⟨w.heap.size, 0, rfl, fun i hi => ?_⟩⟩
  have hi0 : i = 0 := by simpa using hi
  subst hi0
  have := cell_one_new w (.int .u8 x) 5 0 (.int .u8 x) rfl
  exact this
theorem le1 (x : Int) : le 1 x = [x % 256] := rfl
theorem byte_of (x : Int) : IntKind.u8.wrap x = uw x % 256 := by
  unfold uw
  rw [IntKind.wrap_u64, IntKind.wrap_u8]
  omega

end Go.Proofs.YthngpmiclbbpnaaGreat
