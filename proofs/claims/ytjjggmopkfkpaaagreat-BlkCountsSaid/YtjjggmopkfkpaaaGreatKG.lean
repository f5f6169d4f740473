/-
  Faults kept by a chip: the program's own copy of them. Nothing of one statement alone stands here.
-/
import Derived.Test.YtjjggmopkfkpaaaGreatKD
import Derived.Test.YtjjggmopkfkpaaaGreatKE
import Derived.Deep.CutRange
import Derived.Deep.DeepCutAuto
namespace Go.Proofs.YtjjggmopkfkpaaaGreat
open Go.RowKit Crcm Go.ChangeShapes

theorem elem8S : Tryz.prog.elem 40 = 5 := by simp [Program.elem, Tryz.underlying40]
theorem cutT (da : Option Addr) (n dc x : Nat) (X : Int) (hX : X = (x : Int)) (h : x ≤ dc) (W : World) :
    (Instr.slice 40 (.slice da n dc) none (some (.int .i64 X)) none).run Tryz.prog W = .ok (.slice da x dc) W := by
  subst hX
  have he : Tryz.prog.underlying 40 = some (.slice (Tryz.prog.elem 40)) := by rw [elem8S, Tryz.underlying40]
  rw [run_slice_h W _ _ _ _ he .i64 _ (by omega) (by omega), elem8S, Tryz.sizeOf5]
  rcases da with _ | ⟨b, off, sp⟩ <;> simp [Result.andThen, sliced, Addr.add]

set_option maxRecDepth 100000 in
set_option maxHeartbeats 1000000 in
/-- a copy of bytes, nil, empty or not -/
theorem clone_all (a : Option Addr) (n c : Nat) (l : List Int) (w : World) (hr : Rw w a l) (hl : l.length = n) (hn : n ≤ 100000) :
    Calls Tryz.prog 67 #[.slice a n c] w fun e w' => (∃ a' cc, e = .returned (.slice a' n cc) ∧ n ≤ cc ∧ (∀ b off s, a' = some ⟨b, off, s⟩ → w.heap.size ≤ b) ∧ Rw w' a' l) ∧ Below w.heap.size w w' := by
  have HL := Lib.hid hl
  have HR := Lib.hid hr
  have en := fun W a n c => Lib.run_eql_slice_nil (P := Tryz.prog) W 40 5 a n c 0 0 Tryz.underlying40
  cases a with
  | none =>
    have h0 : l = [] := by
      rcases hr.2.2 with h | ⟨b, off, h, _⟩
      · exact h
      · cases h
    subst h0
    simp at hl
    subst hl
    clear hr
    go_enter Tryz.func67, Tryz.ntmps67
    go_wp2
    go_ret
    exact ⟨⟨none, 0, by simp [Rw.nil]⟩, Below.refl _ _⟩
  | some ad =>
    clear hl hr
    go_enter Tryz.func67, Tryz.ntmps67
    have hown : Hid ((w.alloc (.cells #[] 5)).ownsRow w.heap.size 5 1 (.slice (some ⟨w.heap.size, 0, none⟩) 0 0) 0 (([] : List Int).map (Value.int .u8))) := Lib.hid (World.ownsRow_lit w #[] 0 (Nat.le_refl _) (Nat.zero_le _) rfl)
    have hbx : Below w.heap.size w (w.alloc (.cells #[] 5)) := (Below.refl _ _).alloc (Nat.le_refl _) _
    have HBX := Lib.hid hbx
    have hsrc := Lib.hid (HR.out.src.below hbx)
    clear hbx
    go_wp2_with (at_builtin; refine append_bytes rfl _ _ rfl w.heap.size _ 0 [] rfl hown.out (some ad) n c l rfl HL.out hsrc.out (by omega) (by simp) ?_)
    intro v' w2 hown2 hb2
    have HB2 := Lib.hid (HBX.out.trans hb2)
    obtain ⟨a2, cap2, rfl, hrw, hlen, hcap⟩ := Rw.of_own hown2 HR.out.1
    have HW := Lib.hid hown2
    have HR2 := Lib.hid hrw
    clear hown2 hb2 hrw hlen
    go_wp2
    go_ret
    refine ⟨⟨a2, cap2, by simp, by simpa using hcap, fun b off s e => ?_, by simpa using HR2.out⟩, HB2.out⟩
    rcases HW.out.2 with ⟨h0, _⟩ | ⟨g, cap, cur, h0, hg, _⟩
    · injection h0 with e1; rw [e1] at e; cases e
    · injection h0 with e1 e2 e3
      rw [e1] at e
      injection e with e
      injection e with e
      omega

theorem Tryz.infoF : (Tryz.prog.info? 51).map (fun i => (i.zero, i.size, i.bytes)) = some (some (.agg #[.int .i64 0, .int .i64 0, .slice none 0 0]), 3, 40) := by kernel_rfl
/-- a fault as the chip keeps it -/
def trF (wd : Nat) (f : Fl) : Fl := { f with data := f.data.take wd }
/-- the faults kept so far -/
def KI (w : World) (X : Nat → Prop) (G n k wd : Nat) (fl : List Fl) : Prop :=
  ∃ cur, Blk w G 51 cur ∧ cur.size = n * 3 ∧ ∀ j (h : j < fl.length), j < k →
    cur[j * 3]? = some (.int .i64 fl[j].at') ∧ cur[j * 3 + 1]? = some (.int .i64 fl[j].kind) ∧ ∃ da dc, cur[j * 3 + 2]? = some (.slice da (fl[j].data.take wd).length dc) ∧ RwX w X da (fl[j].data.take wd) ∧ (fl[j].data.take wd).length ≤ dc
theorem KI.kp {F X : Nat → Prop} {w w' : World} {G n k wd : Nat} {fl : List Fl} (h : KI w X G n k wd fl) (hk : Kp F w w') (hf : ∀ b, F b → X b) (hg : ¬ F G) : KI w' X G n k wd fl := by
  obtain ⟨cur, h1, h2, h3⟩ := h
  refine ⟨cur, h1.kp hk hg, h2, fun j hj hjk => ?_⟩
  obtain ⟨c0, c1, da, dc, c2, hr, hl⟩ := h3 j hj hjk
  exact ⟨c0, c1, da, dc, c2, hr.kp hk hf, hl⟩
theorem KI.cells {w : World} {X : Nat → Prop} {G n k wd : Nat} {fl : List Fl} (h : KI w X G n k wd fl) (i : Nat) (hi : i < n * 3) : (∃ v, w.cell? ⟨G, i, none⟩ = some v) ∧ w.frozen? ⟨G, i, none⟩ = false := by
  obtain ⟨cur, h1, h2, -⟩ := h
  exact ⟨⟨_, (h1.cell i).trans (Array.getElem?_eq_getElem (by omega))⟩, h1.frozen i⟩
/-- one fault more -/
theorem KI.put {w : World} {X : Nat → Prop} {G n k wd m : Nat} {fl : List Fl} (h : KI w X G n k wd fl) (hX : X G) (hk : k < fl.length) (hn : fl.length = n) {da : Option Addr} {dc : Nat} (hr : RwX w X da (fl[k].data.take wd)) (hm : (fl[k].data.take wd).length = m) (hl : m ≤ dc) :
    KI (((w.setCell ⟨G, k * 3, none⟩ (.int .i64 fl[k].at')).setCell ⟨G, k * 3 + 1, none⟩ (.int .i64 fl[k].kind)).setCell ⟨G, k * 3 + 2, none⟩ (.slice da m dc)) X G n (k + 1) wd fl := by
  have hK : Kp (fun b => b = G) w (((w.setCell ⟨G, k * 3, none⟩ (.int .i64 fl[k].at')).setCell ⟨G, k * 3 + 1, none⟩ (.int .i64 fl[k].kind)).setCell ⟨G, k * 3 + 2, none⟩ (.slice da m dc)) :=
    (((Kp.refl (fun b => b = G) _).setCell (p := ⟨G, k * 3, none⟩) (.inl rfl) _).setCell (p := ⟨G, k * 3 + 1, none⟩) (.inl rfl) _).setCell (p := ⟨G, k * 3 + 2, none⟩) (.inl rfl) _
  have hF : ∀ b, b = G → X b := fun b e => e ▸ hX
  obtain ⟨cur, h1, h2, h3⟩ := h
  refine ⟨_, ((h1.put (k * 3) (.int .i64 fl[k].at')).put (k * 3 + 1) (.int .i64 fl[k].kind)).put (k * 3 + 2) (.slice da m dc), by simp [h2], fun j hj hjk => ?_⟩
  simp only [Array.getElem?_setIfInBounds, Array.size_setIfInBounds]
  by_cases e : j = k
  · subst e
    refine ⟨?_, ?_, da, dc, ?_, hr.kp hK hF, by omega⟩
    · rw [if_neg (by omega), if_neg (by omega), if_pos rfl, if_pos (by omega)]
    · rw [if_neg (by omega), if_pos rfl, if_pos (by omega)]
    · rw [if_pos rfl, if_pos (by omega), hm]
  · obtain ⟨c0, c1, da', dc', c2, hr', hl'⟩ := h3 j hj (by omega)
    refine ⟨?_, ?_, da', dc', ?_, hr'.kp hK hF, hl'⟩
    · rw [if_neg (by omega), if_neg (by omega), if_neg (by omega)]; exact c0
    · rw [if_neg (by omega), if_neg (by omega), if_neg (by omega)]; exact c1
    · rw [if_neg (by omega), if_neg (by omega), if_neg (by omega)]; exact c2
theorem KI.fin {w : World} {X X' : Nat → Prop} {G n k wd : Nat} {fl : List Fl} (h : KI w X' G n n wd fl) (hn : fl.length = n) (hX : ∀ b, X b → X' b) (hG : ¬ X G) (hm : n ≤ maxLen) (hk : n = k) : FlAt w X (.slice (some ⟨G, 0, none⟩) k k) (fl.map (trF wd)) := by
  subst hk
  obtain ⟨cur, h1, h2, h3⟩ := h
  refine ⟨some ⟨G, 0, none⟩, n, by rw [List.length_map, hn], by rw [List.length_map]; omega, .inr ⟨G, 0, rfl, hG, fun j hj => ?_⟩⟩
  rw [List.length_map] at hj
  obtain ⟨c0, c1, da, dc, c2, hr, hl⟩ := h3 j hj (by omega)
  rw [Nat.zero_add]
  have e : (fl.map (trF wd))[j]'(by rw [List.length_map]; exact hj) = trF wd fl[j] := List.getElem_map ..
  rw [e]
  exact ⟨(h1.cell _).trans c0, (h1.cell _).trans c1, da, dc, (h1.cell _).trans c2, hr.narrow hX, hl⟩

set_option maxRecDepth 100000 in
set_option maxHeartbeats 4000000 in
theorem kept_any {w : World} {X : Nat → Prop} {o : Own} {c : Ch} (h : ChAt w X o c) (a : Option Addr) (n cap : Nat) (fl : List Fl) (hf : FlAt w X (.slice a n cap) fl) (hn : fl.length = n) (hn2 : n ≤ 20000) (hd : ∀ f ∈ fl, f.data.length ≤ 20000) :
    Calls Tryz.prog 56 #[o.p, .slice a n cap] w fun e w' => (∃ v', e = .returned v' ∧ FlAt w' X v' (fl.map (trF (c.sz + 32)))) ∧ Below w.heap.size w w' := by
  obtain ⟨i0, hi, hz0, hz1, hz2⟩ := info_parts Tryz.infoF
  have HW := Lib.hid (fun w' (hb : Below w.heap.size w w') => width_any (h.below hb))
  have hold := Lib.hid h.old
  have hsz : c.sz + 32 ≤ 544 := by have := h.good; unfold Gd at this; omega
  obtain ⟨wd, hwd⟩ : ∃ wd, c.sz + 32 = wd := ⟨_, rfl⟩
  rw [hwd] at HW hsz ⊢
  have HF := Lib.hid hf
  have HN := Lib.hid hn
  have HD := Lib.hid hd
  have n1 : n ≤ 9223372036854775807 := by omega
  clear hf hn hd hwd
  go_enter Tryz.func56, Tryz.ntmps56
  go_wp2_with (at_make; refine wpList_make_blk _ rfl _ _ 25 rfl 51 i0 _ 3 Tryz.underlying25 hi hz0 hz1 .i64 .i64 _ _ n rfl rfl rfl rfl (by rw [hz2]; omega) (by unfold maxLen; omega) ?_)
  intro w1 hBk hB1 hS1
  have HI0 : Hid (KI w1 (fun b => X b ∨ b = w.heap.size) w.heap.size n 0 wd fl) := Lib.hid ⟨_, hBk.out, by rw [size_madeCells], fun j hj hjk => absurd hjk (Nat.not_lt_zero _)⟩
  generalize hg : w.heap.size = g at HI0
  have HG := Lib.hid hg
  clear hBk hS1 hi hz0 hz1 hz2 hg
  go_wp2_with fail
  go_loopw [13] (fun i wr => ∃ k : Nat, k ≤ n ∧ i = .int .i64 k ∧ Hid (KI wr (fun b => X b ∨ b = g) g n k wd fl) ∧ Hid (Below w.heap.size w wr)) (fun i _ => n - (intOf i).toNat)
  case atStart => exact ⟨0, Nat.zero_le _, rfl, HI0, hB1⟩
  case round =>
    obtain ⟨k, hkn, rfl, hI, hB⟩ := hrel
    by_cases hlt : k < n
    · have hlt' : (k : Int) < (n : Int) := by omega
      have hkl : k < fl.length := by rw [HN.out]; exact hlt
      obtain ⟨a', cap', ev, -, hf3⟩ := HF.out
      injection ev with e1 e2 e3
      subst e1 e3
      clear e2
      rcases hf3 with rfl | ⟨b, off, rfl, hxb, hf3⟩
      · simp at hkl
      obtain ⟨c0, c1, da, dc, c2, hrx, hdl⟩ := hf3 k hkl
      have hbs := hB.out
      have d0 := (hbs.cell (block_lt_of_cell c0)).trans c0
      have d1 := (hbs.cell (block_lt_of_cell c1)).trans c1
      have d2 := (hbs.cell (block_lt_of_cell c2)).trans c2
      clear c0 c1 c2
      have hd20 := HD.out fl[k] (List.getElem_mem hkl)
      have HPut := Lib.hid (fun W (h : KI W (fun b => X b ∨ b = g) g n k wd fl) da dc (hr : RwX W (fun b => X b ∨ b = g) da (fl[k].data.take wd)) (hl : (fl[k].data.take wd).length ≤ dc) => h.put (.inr rfl) hkl HN.out hr rfl hl)
      obtain ⟨f, hfk⟩ : ∃ f, fl[k] = f := ⟨_, rfl⟩
      rw [hfk] at d0 d1 d2 hrx hdl hd20 HPut
      obtain ⟨at0, kd, dl⟩ := f
      dsimp only at d0 d1 d2 hrx hdl hd20 HPut
      have htl : (dl.take wd).length = Nat.min wd dl.length := List.length_take
      obtain ⟨m, hm⟩ : ∃ m, Nat.min wd dl.length = m := ⟨_, rfl⟩
      have hm2 : (¬ wd < dl.length ∧ m = dl.length) ∨ (wd < dl.length ∧ m = wd) := by rw [← hm]; simp only [Nat.min_def]; split <;> omega
      have hmd : m ≤ dc := by omega
      rw [hm] at htl
      rw [htl] at HPut
      have HRX := Lib.hid (fun W (hb : Below w.heap.size w W) => ((hrx.1.take wd).below hb : Rw W da (dl.take wd)))
      have HTL := Lib.hid htl
      clear hfk hrx htl hm hd20 hdl hf3 hkl
      go_wp2_with fail
      have hbl := (Below.refl wr.heap.size wr).alloc (Nat.le_refl _) (.cells #[.int .i64 at0, .int .i64 kd, .slice da dl.length dc] 51)
      have HBW := Lib.hid (hB.out.trans (hbl.mono hB.out.size))
      have HIW := Lib.hid (hI.out.kp (F := fun _ => False) (Kp.of_below hbl) (fun _ g => g.elim) (fun g => g))
      have hbk := Blk.new wr 51 #[.int .i64 at0, .int .i64 kd, .slice da dl.length dc]
      have hgw : g < wr.heap.size := by obtain ⟨cur, h1, -⟩ := hI.out; exact h1.lt
      have hws := hB.out.size
      have HBL := Lib.hid hbl
      clear hbl hbs d0 d1 d2
      obtain ⟨W, hWe⟩ : ∃ W, wr.alloc (.cells #[.int .i64 at0, .int .i64 kd, .slice da dl.length dc] 51) = W := ⟨_, rfl⟩
      rw [hWe] at HBL HBW HIW hbk ⊢
      clear hWe
      obtain ⟨fb, hfb⟩ : ∃ fb, wr.heap.size = fb := ⟨_, rfl⟩
      rw [hfb] at hbk hgw hws ⊢
      have HFB := Lib.hid hfb
      have HBK := Lib.hid hbk
      have x0 : W.cell? ⟨fb, 0, none⟩ = some (.int .i64 at0) := hbk.cell 0
      have x1 : W.cell? ⟨fb, 1, none⟩ = some (.int .i64 kd) := hbk.cell 1
      have x2 : W.cell? ⟨fb, 2, none⟩ = some (.slice da dl.length dc) := hbk.cell 2
      have z2 := hbk.frozen 2
      have SS := Lib.hid (fun w' (h : Below W.heap.size W w') => (⟨(h.cell (block_lt_of_cell x0)).trans x0, (h.cell (block_lt_of_cell x1)).trans x1, (h.cell (block_lt_of_cell x2)).trans x2, (h.frozen (block_lt_of_cell x2)).trans z2, h⟩ :
        w'.cell? ⟨fb, 0, none⟩ = some (.int .i64 at0) ∧ w'.cell? ⟨fb, 1, none⟩ = some (.int .i64 kd) ∧ w'.cell? ⟨fb, 2, none⟩ = some (.slice da dl.length dc) ∧ w'.frozen? ⟨fb, 2, none⟩ = false ∧ Below W.heap.size W w'))
      have HWd := Lib.hid (fun w' (h : Below W.heap.size W w') => HW.out w' (HBW.out.trans (h.mono HBW.out.size)))
      have HCl := Lib.hid (fun w' (h : Below W.heap.size W w') => clone_all da m dc (dl.take wd) w' (HRX.out _ (HBW.out.trans (h.mono HBW.out.size))) HTL.out (by have := HTL.out; rw [List.length_take] at this; omega))
      clear hbk hfb
      go_cut [7] (fun s7 wx => s7 = .pointer (some ⟨fb, 0, none⟩) ∧ ∃ (da' : Option Addr) (cc : Nat), Hid (Blk wx fb 51 #[.int .i64 at0, .int .i64 kd, .slice da' m cc]) ∧ Hid (RwX wx (fun b => X b ∨ b = g) da' (dl.take wd)) ∧ m ≤ cc ∧ Hid (Below wr.heap.size wr wx))
      case first =>
        rcases hm2 with ⟨hq, hmq⟩ | ⟨hq, hmq⟩
        · have hq2 : ¬ (wd : Int) < (dl.length : Int) := by omega
          subst hmq
          have hct := cutT da dl.length dc dl.length (dl.length : Int) rfl hmd
          go_region_with (first
            | (go_at_call 63; refine (HWd.out _ ?_).mono ?_; (first | exact (Below.refl _ W).drew | assumption); rintro r w' ⟨rfl, rfl⟩)
            | (go_at_call 67; refine (HCl.out _ ?_).mono ?_; exact (Below.refl _ W).drew; rintro r w3 ⟨⟨da', cc, rfl, hcc, hda', hrw⟩, hb3⟩; obtain ⟨x0', x1', x2', z2', hb3'⟩ := SS.out w3 (below_undraw hb3)))
          all_goals
            go_wp2_with fail
            go_meet
            have hfW : fb < W.heap.size := HBK.out.lt
            have hb6 := (HBL.out.trans (hb3'.mono HBL.out.size)).setCell (p := ⟨fb, 2, none⟩) (by show wr.heap.size ≤ fb; rw [HFB.out]; exact Nat.le_refl _) (.slice da' dl.length cc)
            refine ⟨rfl, da', cc, Lib.hid ((HBK.out.below hb3' hfW).put 2 (.slice da' dl.length cc)), Lib.hid ⟨⟨hrw.1, hrw.2.1, ?_⟩, fun b off s e hne hx => ?_⟩, hcc, Lib.hid hb6⟩
            · rcases hrw.2.2 with h | ⟨b, off, e, hc⟩
              · exact .inl h
              · refine .inr ⟨b, off, e, fun i hi => ?_⟩
                have h1 : W.heap.size ≤ b := hda' b off none e
                rw [World.cell?_setCell_other _ _ _ _ (by intro x; injection x; omega)]
                exact hc i hi
            · have h1 : W.heap.size ≤ b := hda' b off s e
              have h4 := HBW.out.size
              rcases hx with hx | rfl
              · have := hold.out b hx; omega
              · omega
        · have hq2 : (wd : Int) < (dl.length : Int) := by omega
          subst hmq
          have hct := cutT da dl.length dc m (m : Int) rfl hmd
          go_region_with (first
            | (go_at_call 63; refine (HWd.out _ ?_).mono ?_; (first | exact (Below.refl _ W).drew | assumption); rintro r w' ⟨rfl, rfl⟩)
            | (go_at_call 67; refine (HCl.out _ ?_).mono ?_; exact (Below.refl _ W).drew; rintro r w3 ⟨⟨da', cc, rfl, hcc, hda', hrw⟩, hb3⟩; obtain ⟨x0', x1', x2', z2', hb3'⟩ := SS.out w3 (below_undraw hb3)))
          all_goals
            go_wp2_with fail
            go_meet
            have hfW : fb < W.heap.size := HBK.out.lt
            have hb6 := (HBL.out.trans (hb3'.mono HBL.out.size)).setCell (p := ⟨fb, 2, none⟩) (by show wr.heap.size ≤ fb; rw [HFB.out]; exact Nat.le_refl _) (.slice da' m cc)
            refine ⟨rfl, da', cc, Lib.hid ((HBK.out.below hb3' hfW).put 2 (.slice da' m cc)), Lib.hid ⟨⟨hrw.1, hrw.2.1, ?_⟩, fun b off s e hne hx => ?_⟩, hcc, Lib.hid hb6⟩
            · rcases hrw.2.2 with h | ⟨b, off, e, hc⟩
              · exact .inl h
              · refine .inr ⟨b, off, e, fun i hi => ?_⟩
                have h1 : W.heap.size ≤ b := hda' b off none e
                rw [World.cell?_setCell_other _ _ _ _ (by intro x; injection x; omega)]
                exact hc i hi
            · have h1 : W.heap.size ≤ b := hda' b off s e
              have h4 := HBW.out.size
              rcases hx with hx | rfl
              · have := hold.out b hx; omega
              · omega
      case rest =>
        obtain ⟨rfl, da', cc, HK6, HR6, hcc, HB6⟩ := hcut
        have HI6 := hI.out.kp (F := fun _ => False) (Kp.of_below HB6.out) (fun _ g => g.elim) (fun g => g)
        have HBB := Lib.hid (hB.out.trans (HB6.out.mono hB.out.size))
        have k0 : wc.cell? ⟨fb, 0, none⟩ = some (.int .i64 at0) := HK6.out.cell 0
        have k1 : wc.cell? ⟨fb, 1, none⟩ = some (.int .i64 kd) := HK6.out.cell 1
        have k2 : wc.cell? ⟨fb, 2, none⟩ = some (.slice da' m cc) := HK6.out.cell 2
        obtain ⟨⟨v0, s0⟩, f0⟩ := HI6.cells (k * 3) (by omega)
        obtain ⟨⟨v1, s1⟩, f1⟩ := HI6.cells (k * 3 + 1) (by omega)
        obtain ⟨⟨v2, s2⟩, f2⟩ := HI6.cells (k * 3 + 2) (by omega)
        have HP := Lib.hid (HPut.out wc HI6 da' cc HR6.out hcc)
        have HB9 := Lib.hid (((HBB.out.setCell (p := ⟨g, k * 3, none⟩) (by have := HG.out; show w.heap.size ≤ g; omega) (.int .i64 at0)).setCell (p := ⟨g, k * 3 + 1, none⟩) (by have := HG.out; show w.heap.size ≤ g; omega) (.int .i64 kd)).setCell (p := ⟨g, k * 3 + 2, none⟩) (by have := HG.out; show w.heap.size ≤ g; omega) (.slice da' m cc))
        clear HI6
        go_wp2
        go_roundw
        case rel => exact ⟨k + 1, by omega, by go_num, HP, HB9⟩
        case measure => simp [intOf]; omega
    · have hkn2 : k = n := by omega
      have hlt' : ¬ (k : Int) < (n : Int) := by omega
      subst hkn2
      have HFin := Lib.hid (hI.out.fin (X := X) (k := k) HN.out (fun b hb => .inl hb) (fun hx => by have := hold.out g hx; have := HG.out; omega) (by unfold maxLen; omega) rfl)
      clear hI
      go_wp2
      go_ret
      exact ⟨⟨_, rfl, HFin.out⟩, hB.out⟩

end Go.Proofs.YtjjggmopkfkpaaaGreat

/-
  Faults set: the program's call Script. Nothing of one statement alone stands here.
-/
namespace Go.Proofs.YtjjggmopkfkpaaaGreat
open Go.RowKit Crcm Go.ChangeShapes

set_option maxRecDepth 100000 in
set_option maxHeartbeats 2000000 in
/-- faults set -/
theorem script_yes {w : World} {X : Nat → Prop} {o : Own} {c : Ch} (h : ChAt w X o c) (a : Option Addr) (n cap : Nat) (fl : List Fl) (hf : FlAt w X (.slice a n cap) fl) (hn : fl.length = n) (hn2 : n ≤ 20000) (hd : ∀ f ∈ fl, f.data.length ≤ 20000) (hat : ∀ f ∈ fl, 0 ≤ f.at') :
    Calls Tryz.prog 24 #[o.p, .slice a n cap] w fun e w' => e = .returned (.int .i64 0) ∧ ChAt w' X o { c with fl := fl.map (trF (c.sz + 32)), since := 0 } ∧ Kp (o.F c.nb) w w' := by
  have HKe := Lib.hid (fun w' (hb : Below w.heap.size w w') => kept_any (h.below hb) a n cap fl (hf.kp (F := fun _ => False) (Kp.of_below hb) (fun _ g => g.elim)) hn hn2 hd)
  have H := Lib.hid h
  have HF := Lib.hid hf
  have HN := Lib.hid hn
  have HAt := Lib.hid hat
  have n1 : n ≤ 9223372036854775807 := by omega
  clear h hf hn hd hat
  go_enter Tryz.func24, Tryz.ntmps24
  go_wp2_with fail
  go_loopw [11] (fun i wr => ∃ k : Nat, k ≤ n ∧ i = .int .i64 k ∧ Hid (Below w.heap.size w wr)) (fun i _ => n - (intOf i).toNat)
  case atStart => exact ⟨0, Nat.zero_le _, rfl, Lib.hid (Below.refl _ _)⟩
  case round =>
    obtain ⟨k, hkn, rfl, hB⟩ := hrel
    by_cases hlt : k < n
    · have hlt' : (k : Int) < (n : Int) := by omega
      have hkl : k < fl.length := by rw [HN.out]; exact hlt
      obtain ⟨a', cap', ev, -, hf3⟩ := HF.out
      injection ev with e1 e2 e3
      subst e1 e3
      clear e2
      rcases hf3 with rfl | ⟨b, off, rfl, hxb, hf3⟩
      · simp at hkl
      obtain ⟨c0, c1, da, dc, c2, -, -⟩ := hf3 k hkl
      have hbs := hB.out
      have d0 := (hbs.cell (block_lt_of_cell c0)).trans c0
      have d1 := (hbs.cell (block_lt_of_cell c1)).trans c1
      have d2 := (hbs.cell (block_lt_of_cell c2)).trans c2
      clear c0 c1 c2
      have ha := HAt.out fl[k] (List.getElem_mem hkl)
      obtain ⟨f, hfk⟩ : ∃ f, fl[k] = f := ⟨_, rfl⟩
      rw [hfk] at d0 d1 d2 ha
      obtain ⟨at0, kd, dl⟩ := f
      dsimp only at d0 d1 d2 ha
      have hat2 : ¬ at0 < 0 := by omega
      clear hfk hf3 hkl ha
      have HB2 := Lib.hid (hB.out.alloc hB.out.size (.cells #[.int .i64 at0, .int .i64 kd, .slice da dl.length dc] 51))
      clear hbs
      go_wp2
      go_roundw
      case rel => exact ⟨k + 1, by omega, by go_num, HB2⟩
      case measure => simp [intOf]; omega
    · have hkn2 : k = n := by omega
      have hlt' : ¬ (k : Int) < (n : Int) := by omega
      subst hkn2
      go_wp2_with fail
      refine (HKe.out _ hB.out).mono ?_
      rintro e w2 ⟨⟨v', rfl, hfl⟩, hb2⟩
      have hfl2 := hfl
      obtain ⟨a6, cap6, hv, -⟩ := hfl2
      rw [List.length_map, HN.out] at hv
      subst hv
      have hb := hB.out.trans (hb2.mono hB.out.size)
      have hC := H.out.below hb
      obtain ⟨fv, hch, -⟩ := hC.chip
      have c5 : w2.cell? ⟨o.bc, 5, none⟩ = some fv := hch.cell 5
      obtain ⟨-, -, -, -, -, c6, -⟩ := hC.cell
      have f5 := hC.froz 5
      have f6 := hC.froz 6
      have HP := Lib.hid ((hC.putFl _ _ hfl).putSince 0)
      have HKp := Lib.hid (((Kp.of_below (F := o.F c.nb) hb).setCell (p := ⟨o.bc, 5, none⟩) (.inl (.inl rfl)) (.slice a6 k cap6)).setCell (p := ⟨o.bc, 6, none⟩) (.inl (.inl rfl)) (.int .i64 0))
      clear hC hfl hb2 hb hch
      go_wp2
      go_ret
      exact ⟨rfl, HP.out, HKp.out⟩

end Go.Proofs.YtjjggmopkfkpaaaGreat

/-
  The program's calls on a chip, each whole: what is answered, what is kept, and when nothing has turned.
-/
namespace Go.Proofs.YtjjggmopkfkpaaaGreat
open Go.RowKit Crcm Go.ChangeShapes

/-- three things -/
structure K3 (A B C : Prop) : Prop where
  a : A
  b : B
  c : C
/-- faults that are few and short -/
def Fw (c : Ch) : Prop := c.fl.length ≤ 20000 ∧ ∀ f ∈ c.fl, f.data.length ≤ 20000
/-- a later chip has what was programmed in the blocks that are not of P; its faults are few if they were -/
def Kd (c c' : Ch) (P : Nat → Prop) : Prop := K3 (c'.nb = c.nb) (c'.np = c.np ∧ c'.sz = c.sz ∧ ∀ k i l, ¬ P k → c.pg k i = some l → c'.pg k i = some l) (Fw c → Fw c')
theorem Kd.refl (c : Ch) (P : Nat → Prop) : Kd c c P := ⟨rfl, ⟨rfl, rfl, fun _ _ _ _ h => h⟩, id⟩
theorem Kd.trans {a b c : Ch} {P : Nat → Prop} (h : Kd a b P) (k : Kd b c P) : Kd a c P := ⟨k.1.trans h.1, ⟨k.2.1.trans h.2.1, k.2.2.1.trans h.2.2.1, fun j i l hp hg => k.2.2.2 j i l hp (h.2.2.2 j i l hp hg)⟩, fun f => k.3 (h.3 f)⟩
theorem Kd.mono {a b : Ch} {P Q : Nat → Prop} (h : Kd a b P) (hq : ∀ k, P k → Q k) : Kd a b Q := ⟨h.1, ⟨h.2.1, h.2.2.1, fun k i l hp => h.2.2.2 k i l fun g => hp (hq k g)⟩, h.3⟩
theorem Kd.same {c c' : Ch} (h1 : c'.nb = c.nb) (h2 : c'.np = c.np) (h3 : c'.sz = c.sz) (h4 : c'.pg = c.pg) (P : Nat → Prop) (h5 : c'.fl = c.fl := by rfl) : Kd c c' P := ⟨h1, ⟨h2, h3, fun k i l _ h => by rw [h4]; exact h⟩, fun f => by unfold Fw at f ⊢; rw [h5]; exact f⟩
theorem Kd.endC {c c' : Ch} {P : Nat → Prop} (h : Kd c c' P) (k : Int) : Kd c (Go.Proofs.YtjjggmopkfkpaaaGreat.endC k c') P := by
  unfold Go.Proofs.YtjjggmopkfkpaaaGreat.endC
  split
  · exact h
  · exact h
/-- what a call that answers a number comes to -/
def GQ (w : World) (X : Nat → Prop) (o : Own) (c : Ch) (P : Nat → Prop) (e : Ending) (w' : World) : Prop :=
  ∃ (x : Int) (c' : Ch), e = .returned (.int .i64 x) ∧ ChAt w' X o c' ∧ Kp (o.F c.nb) w w' ∧ Kd c c' P ∧ (c' = c ∧ Below w.heap.size w w' ∨ x = 0 ∨ x = 11 ∨ x = 4 ∧ c.up = true)

theorem nx_none (f : Nat → Option (List Int)) : ∀ n i, nx f n ≤ i → i < n → f i = none := by
  intro n
  induction n with
  | zero => intro i _ h; omega
  | succ n ih =>
    intro i h1 h2
    rw [nx] at h1
    split at h1
    · omega
    · rename_i hn
      by_cases e : i = n
      · subst e
        cases hf : f i with
        | none => rfl
        | some l => rw [hf] at hn; exact absurd rfl hn
      · exact ih i h1 (by omega)
theorem endE_say (k : Int) : endE k = 0 ∨ endE k = 11 ∨ endE k = 4 := by
  unfold endE
  split
  · exact .inr (.inr rfl)
  · split
    · exact .inr (.inl rfl)
    · exact .inl rfl
theorem up2_kd {c c' : Ch} {k i : Nat} (h1 : c'.nb = c.nb) (h2 : c'.np = c.np) (h3 : c'.sz = c.sz) (h4 : ∃ p : Option (List Int), c'.pg = up2 c.pg k i p) (hn : c.pg k i = none) (P : Nat → Prop) (h5 : c'.fl = c.fl) : Kd c c' P := ⟨h1, ⟨h2, h3, fun k' i' l _ h => by
  obtain ⟨p, h4⟩ := h4
  rw [h4]
  unfold up2
  by_cases e : k' = k
  · subst e
    rw [up1_at]
    by_cases e2 : i' = i
    · subst e2; rw [hn] at h; cases h
    · rw [up1_ne _ _ e2]; exact h
  · rw [up1_ne _ _ e]; exact h⟩, fun f => by unfold Fw at f ⊢; rw [h5]; exact f⟩
theorem up1_kd {c c' : Ch} {k : Nat} (h1 : c'.nb = c.nb) (h2 : c'.np = c.np) (h3 : c'.sz = c.sz) (h4 : ∃ f : Nat → Option (List Int), c'.pg = up1 c.pg k f) (h5 : c'.fl = c.fl) : Kd c c' (fun j => j = k) := ⟨h1, ⟨h2, h3, fun k' i' l hp h => by
  obtain ⟨f, h4⟩ := h4
  rw [h4, up1_ne _ _ hp]
  exact h⟩, fun f => by unfold Fw at f ⊢; rw [h5]; exact f⟩
theorem prC_kd {c : Ch} {k page : Nat} (l : List Int) (hn : c.pg k page = none) (P : Nat → Prop) : Kd c (prC c k page l) P := by
  unfold prC
  refine Kd.endC ?_ _
  split
  · exact Kd.same rfl rfl rfl rfl P
  · split
    · refine up2_kd ?_ ?_ ?_ ?_ hn P ?_
      · rfl
      · rfl
      · rfl
      · exact ⟨_, rfl⟩
      · rfl
    · refine up2_kd ?_ ?_ ?_ ?_ hn P ?_
      · rfl
      · rfl
      · rfl
      · exact ⟨_, rfl⟩
      · rfl
theorem erD_kd (c : Ch) (k : Nat) : Kd c (erD c k) (fun j => j = k) := by
  unfold erD
  refine Kd.endC ?_ _
  split
  · exact Kd.same rfl rfl rfl rfl _
  · split
    · refine up1_kd ?_ ?_ ?_ ?_ ?_
      · rfl
      · rfl
      · rfl
      · exact ⟨_, rfl⟩
      · rfl
    · refine up1_kd ?_ ?_ ?_ ?_ ?_
      · rfl
      · rfl
      · rfl
      · exact ⟨_, rfl⟩
      · rfl

theorem gprog_all {w : World} {X : Nat → Prop} {o : Own} {c : Ch} (h : ChAt w X o c) (k page : Int) (A : Option Addr) (m cap : Nat) (l : List Int) (hr : RwX w X A l) (hl : l.length = m) (P : Nat → Prop) :
    Calls Tryz.prog 31 #[o.p, .int .i64 k, .int .i64 page, .slice A m cap] w (GQ w X o c P) := by
  by_cases he : prE c k page m = 0
  · obtain ⟨h1, h2, h3, h4, h5⟩ := prE_zero he
    obtain ⟨r1, r2, r3⟩ := rpE_zero h1
    obtain ⟨s1, s2, s3⟩ := reE_zero r1
    obtain ⟨k, rfl⟩ : ∃ n : Nat, k = n := ⟨k.toNat, by omega⟩
    obtain ⟨page, rfl⟩ : ∃ n : Nat, page = n := ⟨page.toNat, by omega⟩
    rw [Int.toNat_natCast, Int.toNat_natCast] at h5
    subst h2
    have hn := nx_none (c.pg k) c.np page (by omega) (by omega)
    refine (program_yes h k page A cap l hr hl he).mono ?_
    rintro e w' ⟨rfl, hc, hk⟩
    refine ⟨_, _, rfl, hc, hk, prC_kd l hn P, .inr ?_⟩
    rcases endE_say (fnd c.fl c.since).kind with e | e | e
    · exact .inl e
    · exact .inr (.inl e)
    · exact .inr (.inr ⟨e, s1⟩)
  · refine (program_no h k page A m cap (by have := hr.1.2.1; omega) he).mono ?_
    rintro e w' ⟨rfl, rfl⟩
    exact ⟨_, c, rfl, h, Kp.refl _ _, Kd.refl _ _, .inl ⟨rfl, Below.refl _ _⟩⟩
theorem gerase_all {w : World} {X : Nat → Prop} {o : Own} {c : Ch} (h : ChAt w X o c) (k : Int) :
    Calls Tryz.prog 73 #[o.p, .int .i64 k] w (GQ w X o c (fun j => (j : Int) = k)) := by
  by_cases he : erE c k = 0
  · have h0 : reE c k = 0 := by
      unfold erE at he
      split at he
      · assumption
      · exact absurd he (by assumption)
    obtain ⟨s1, s2, s3⟩ := reE_zero h0
    obtain ⟨k, rfl⟩ : ∃ n : Nat, k = n := ⟨k.toNat, by omega⟩
    refine (erase_yes h k he).mono ?_
    rintro e w' ⟨rfl, hc, hk⟩
    refine ⟨_, _, rfl, hc, hk, (erD_kd c k).mono (fun j e => by rw [e]), .inr ?_⟩
    rcases endE_say (fnd c.fl c.since).kind with e | e | e
    · exact .inl e
    · exact .inr (.inl e)
    · exact .inr (.inr ⟨e, s1⟩)
  · refine (erase_no h k he).mono ?_
    rintro e w' ⟨rfl, rfl⟩
    exact ⟨_, c, rfl, h, Kp.refl _ _, Kd.refl _ _, .inl ⟨rfl, Below.refl _ _⟩⟩
theorem gmark_all {w : World} {X : Nat → Prop} {o : Own} {c : Ch} (h : ChAt w X o c) (k : Int) (P : Nat → Prop) :
    Calls Tryz.prog 89 #[o.p, .int .i64 k] w (GQ w X o c P) := by
  by_cases he : reE c k = 0
  · obtain ⟨s1, s2, s3⟩ := reE_zero he
    obtain ⟨k, rfl⟩ : ∃ n : Nat, k = n := ⟨k.toNat, by omega⟩
    refine (mark_yes h k he).mono ?_
    rintro e w' ⟨rfl, hc, hk⟩
    exact ⟨_, _, rfl, hc, hk, Kd.same rfl rfl rfl rfl P, .inr (.inl rfl)⟩
  · refine (mark_no h k he).mono ?_
    rintro e w' ⟨rfl, rfl⟩
    exact ⟨_, c, rfl, h, Kp.refl _ _, Kd.refl _ _, .inl ⟨rfl, Below.refl _ _⟩⟩

set_option maxRecDepth 100000 in
set_option maxHeartbeats 2000000 in
/-- a fault that stands ahead of all: nothing is set -/
theorem script_no {w : World} {X : Nat → Prop} (a : Option Addr) (n cap : Nat) (fl : List Fl) (hf : FlAt w X (.slice a n cap) fl) (hn : fl.length = n) (hat : ¬ ∀ f ∈ fl, 0 ≤ f.at') (bc : Nat) :
    Calls Tryz.prog 24 #[.pointer (some ⟨bc, 0, none⟩), .slice a n cap] w fun e w' => e = .returned (.int .i64 1) ∧ Below w.heap.size w w' := by
  have HF := Lib.hid hf
  have HN := Lib.hid hn
  have n1 : n ≤ 9223372036854775807 := by
    obtain ⟨_, _, _, hm, -⟩ := hf
    unfold maxLen at hm
    omega
  have HAt := Lib.hid hat
  clear hf hn hat
  go_enter Tryz.func24, Tryz.ntmps24
  go_wp2_with fail
  go_loopw [11] (fun i wr => ∃ k : Nat, k ≤ n ∧ i = .int .i64 k ∧ Hid (∀ j (hj : j < fl.length), j < k → 0 ≤ fl[j].at') ∧ Hid (Below w.heap.size w wr)) (fun i _ => n - (intOf i).toNat)
  case atStart => exact ⟨0, Nat.zero_le _, rfl, Lib.hid (fun j _ h => absurd h (Nat.not_lt_zero _)), Lib.hid (Below.refl _ _)⟩
  case round =>
    obtain ⟨k, hkn, rfl, hA, hB⟩ := hrel
    by_cases hlt : k < n
    · have hlt' : (k : Int) < (n : Int) := by omega
      have hkl : k < fl.length := by rw [HN.out]; exact hlt
      obtain ⟨a', cap', ev, -, hf3⟩ := HF.out
      injection ev with e1 e2 e3
      subst e1 e3
      clear e2
      rcases hf3 with rfl | ⟨b, off, rfl, hxb, hf3⟩
      · simp at hkl
      obtain ⟨c0, c1, da, dc, c2, -, -⟩ := hf3 k hkl
      have hbs := hB.out
      have d0 := (hbs.cell (block_lt_of_cell c0)).trans c0
      have d1 := (hbs.cell (block_lt_of_cell c1)).trans c1
      have d2 := (hbs.cell (block_lt_of_cell c2)).trans c2
      clear c0 c1 c2
      have HNx : Hid (0 ≤ fl[k].at' → ∀ j (hj : j < fl.length), j < k + 1 → 0 ≤ fl[j].at') := Lib.hid fun h j hj hk => by
        by_cases e : j = k
        · subst e; exact h
        · exact hA.out j hj (by omega)
      obtain ⟨f, hfk⟩ : ∃ f, fl[k] = f := ⟨_, rfl⟩
      rw [hfk] at d0 d1 d2 HNx
      obtain ⟨at0, kd, dl⟩ := f
      dsimp only at d0 d1 d2 HNx
      clear hfk hf3 hkl
      have HB2 := Lib.hid (hB.out.alloc hB.out.size (.cells #[.int .i64 at0, .int .i64 kd, .slice da dl.length dc] 51))
      clear hbs
      by_cases hz : at0 < 0
      · go_wp2
        go_ret
        exact ⟨rfl, HB2.out⟩
      · have HN2 := Lib.hid (HNx.out (by omega))
        clear HNx
        go_wp2
        go_roundw
        case rel => exact ⟨k + 1, by omega, by go_num, HN2, HB2⟩
        case measure => simp [intOf]; omega
    · exfalso
      apply HAt.out
      intro f hf
      obtain ⟨j, hj, rfl⟩ := List.getElem_of_mem hf
      exact hA.out j hj (by have := HN.out; omega)
theorem gscript_all {w : World} {X : Nat → Prop} {o : Own} {c : Ch} (h : ChAt w X o c) (a : Option Addr) (n cap : Nat) (fl : List Fl) (hf : FlAt w X (.slice a n cap) fl) (hn : fl.length = n) (hn2 : n ≤ 20000) (hd : ∀ f ∈ fl, f.data.length ≤ 20000) (P : Nat → Prop) :
    Calls Tryz.prog 24 #[o.p, .slice a n cap] w (GQ w X o c P) := by
  by_cases he : ∀ f ∈ fl, 0 ≤ f.at'
  · refine (script_yes h a n cap fl hf hn hn2 hd he).mono ?_
    rintro e w' ⟨rfl, hc, hk⟩
    refine ⟨_, _, rfl, hc, hk, ⟨rfl, ⟨rfl, rfl, fun _ _ _ _ h => h⟩, fun _ => ⟨?_, fun f hf => ?_⟩⟩, .inr (.inl rfl)⟩
    · show (fl.map _).length ≤ 20000
      rw [List.length_map]; omega
    · obtain ⟨g, hg, rfl⟩ := List.mem_map.1 hf
      show (g.data.take _).length ≤ 20000
      rw [List.length_take]
      have := hd g hg
      omega
  · refine (script_no a n cap fl hf hn he o.bc).mono ?_
    rintro e w' ⟨rfl, hb⟩
    exact ⟨_, c, rfl, h.below hb, Kp.of_below hb, Kd.refl _ _, .inl ⟨rfl, hb⟩⟩
end Go.Proofs.YtjjggmopkfkpaaaGreat
