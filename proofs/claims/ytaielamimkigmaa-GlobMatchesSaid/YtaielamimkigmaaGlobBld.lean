/-
  A text put together byte by byte: the library's Builder, as the seat's program has it.
-/
import Derived.Test.YtaielamimkigmaaGlobLawC
import Derived.Test.YtaielamimkigmaaShelfBld
import Derived.Laws.Externs
namespace Go.Proofs.Ytaielamimkigmaa
open Go.RowKit Go.ChangeShapes Globm Go.ChangeMaps

theorem bldInfo : ∃ j, Try.prog.info? 66 = some j ∧ j.size = 2 := by
  have h : (Try.prog.info? 66).map (·.size) = some 2 := by kernel_rfl
  obtain ⟨j, h1, h2⟩ := Option.map_eq_some_iff.1 h
  exact ⟨j, h1, h2⟩
theorem bldLies : liesAt Try.prog Try.prog.depth 66 (2 / Try.prog.cellsOf 66) 0 66 1 = true := by kernel_rfl

set_option maxRecDepth 100000 in
/-- the check ahead of each writing -/
theorem bcheck_any (B b : Nat) (bs : List Value) (w : World) (h : Lib.IsBuilder 66 5 B b bs w) :
    Calls Try.prog 57 #[.pointer (some ⟨b, 0, none⟩)] w fun e w' => e = .returned (.tuple #[]) ∧ Lib.BuilderAt 66 5 B b (.pointer (some ⟨b, 0, none⟩)) bs w' ∧ Below B w w' := by
  obtain ⟨j, hj, hjs⟩ := bldInfo
  rcases h with h | h
  · have h0 := h.cell0
    have hsh := h.shape
    have hf := h.frozen0
    have HH := Lib.hid h
    clear h
    go_enter Try.func57, Try.ntmps57
    go_wp2
    rw [Lib.run_to_unsafe w ⟨b, 0, none⟩ Try.underlying63 Try.underlying102 hj (by rw [hjs]; decide) hsh (Nat.zero_lt_succ 1)]
    simp only [Result.andThen]
    rw [Oper.upon_value]
    go_wp2
    rw [run_callFunc_extern Try.func63 (by kernel_rfl) (by kernel_rfl) (by kernel_rfl) (e := Extern.AbiNoEscape.same) (by kernel_rfl)]
    rw [Lib.run_noEscape]
    simp only [Result.andThen]
    rw [Oper.upon_value]
    go_wp2
    rw [Lib.run_from_unsafe w ⟨b, 0, none⟩ Try.underlying102 Try.underlying63 hj hsh bldLies]
    simp only [Result.andThen]
    rw [Oper.upon_value]
    go_wp2
    go_end0
    exact ⟨rfl, HH.out.used _, (Below.refl B w).setCell (p := ⟨b, 0, none⟩) HH.out.1 _⟩
  · have h0 := h.cell0
    have HH := Lib.hid h
    clear h
    go_enter Try.func57, Try.ntmps57
    go_wp2
    rw [Lib.run_neq_ptr_same w _ Try.underlying63 hj]
    go_wp2
    go_end0
    exact ⟨rfl, HH.out, Below.refl _ _⟩

theorem infoB8 : (Try.prog.info? 5).map (fun i => (i.zero, i.size, i.bytes)) = some (some (.int .u8 0), 1, 1) := by kernel_rfl
theorem byteCells_snoc (l : List UInt8) (c : UInt8) : Lib.byteCells (l ++ [c]) = Lib.byteCells l ++ [.int .u8 c.toNat] := by simp [Lib.byteCells]
theorem byteCells_len (l : List UInt8) : (Lib.byteCells l).length = l.length := by simp [Lib.byteCells]
theorem grownBy_setAt (W : World) (b i : Nat) (v : Value) : W.grownBy (W.setCell ⟨b, i, none⟩ v) (some b) :=
  ⟨rfl, rfl, rfl, by simp [World.setCell], fun j _ hne => Below.heap_setCell W _ _ j (fun e => hne (by rw [e]))⟩
set_option maxRecDepth 100000 in
set_option maxHeartbeats 1000000 in
/-- a byte more -/
theorem bwrite_any (B b : Nat) (l : List UInt8) (c : UInt8) (w : World) (h : Lib.IsBuilder 66 5 B b (Lib.byteCells l) w) (hlen : l.length + 1 ≤ 1000000) (hBw : B ≤ w.heap.size) :
    Calls Try.prog 39 #[.pointer (some ⟨b, 0, none⟩), .int .u8 c.toNat] w fun e w' => e = .returned .nilIface ∧ Lib.BuilderAt 66 5 B b (.pointer (some ⟨b, 0, none⟩)) (Lib.byteCells (l ++ [c])) w' ∧ Below B w w' := by
  have HC := Lib.hid (bcheck_any B b _ w h)
  obtain ⟨i0, hi, hz0, hz1, hz2⟩ := info_parts infoB8
  obtain ⟨n, hn⟩ : ∃ n, l.length = n := ⟨_, rfl⟩
  obtain ⟨x, hx⟩ : ∃ x, c.toNat = x := ⟨_, rfl⟩
  have HX := Lib.hid (And.intro hn hx)
  rw [hx]
  rw [hn] at hlen
  have HBw := Lib.hid hBw
  clear h hn hx hBw
  go_enter Try.func39, Try.ntmps39
  go_wp2_with fail
  refine HC.out.mono ?_
  rintro e w1 ⟨rfl, ⟨hB, v, hbk, hown, hne⟩, hb1⟩
  rw [byteCells_len, HX.out.1] at hown
  obtain ⟨A, ca, rfl⟩ := own_formN hown
  have hpat : Blk w1 b 66 #[.pointer (some ⟨b, 0, none⟩), .slice A n ca] := hbk
  have c1 := hpat.cell 1
  have HO := Lib.hid hown
  have HPat := Lib.hid hpat
  have HB1 := Lib.hid hb1
  have HNe := Lib.hid hne
  have HBb := Lib.hid hB
  clear hown hpat hb1 hne hbk hB
  go_wp2_with (at_builtin; refine wpList_append_own_at _ rfl _ _ 64 rfl B 5 i0 (.int .u8 0) 1 1 Try.underlying64 hi hz0 hz1 hz2 rfl (by decide) _ n _ rfl (HO.out.alloc _) ⟨w1.heap.size, 0, none⟩ 1 1 [.int .u8 (x : Int)] rfl rfl (by intro j u hu; have h2 := (Blk.new w1 5 #[.int .u8 (x : Int)]).cell j; rw [Addr.add_lit, Nat.zero_add, h2]; simpa using hu) (by intro u hu; simp at hu; subst hu; rfl) (by unfold maxLen; omega) (by omega) (by have := HBw.out; have := HB1.out.size; simp; omega) ?_; intro v' w2 hown' hg' _ _; obtain ⟨Z, cz, rfl⟩ := own_formN hown'; have hp2 : Blk w2 b 66 #[.pointer (some ⟨b, 0, none⟩), .slice A n ca] := (hg'.block b (by have := HPat.out.lt; simp; omega) (fun e => HNe.out e.symm)).trans (HPat.out.alloc _); have d1 := hp2.cell 1; have df := hp2.frozen 1)
  have hp3 : Blk (w2.setCell ⟨b, 1, none⟩ (.slice Z (n + 1) cz)) b 66 #[.pointer (some ⟨b, 0, none⟩), .slice Z (n + 1) cz] := by simpa using hp2.put 1 (.slice Z (n + 1) cz)
  have HEnd : Hid (Lib.BuilderAt 66 5 B b (.pointer (some ⟨b, 0, none⟩)) (Lib.byteCells (l ++ [c])) (w2.setCell ⟨b, 1, none⟩ (.slice Z (n + 1) cz)) ∧ Below B w (w2.setCell ⟨b, 1, none⟩ (.slice Z (n + 1) cz))) := Lib.hid (by
    have hne2 := own_type hown' hp2 (by decide)
    refine ⟨⟨HBb.out, _, hp3, ?_, hne2⟩, ?_⟩
    · rw [byteCells_len, byteCells_snoc, HX.out.2, List.length_append, HX.out.1]
      exact hown'.kept (grownBy_setAt w2 b 1 _) (.inr hne2)
    · exact ((HB1.out.alloc (by have := HBw.out; have := HB1.out.size; omega) _).grown hg' (by have := HBw.out; have := HB1.out.size; simp; omega) (fun k hk => (HO.out.lt k hk).1)).setCell (p := ⟨b, 1, none⟩) HBb.out _)
  clear hp3 hp2 hown' hg'
  go_wp2
  go_ret
  exact ⟨rfl, HEnd.out.1, HEnd.out.2⟩
end Go.Proofs.Ytaielamimkigmaa
