/-
  The document's chip in memory: a block is erased.
-/
import Derived.Test.YtjjggmopkfkpaaaGreatKT
import Derived.Deep.RegionLaw
import Derived.Deep.RegionHeld3
import Derived.Deep.CutBlock
import Derived.Deep.DeepCutAuto
namespace Go.Proofs.YtjjggmopkfkpaaaGreat
open Go.RowKit Crcm Go.ChangeShapes

/-- an append onto a row of the call's own, as one step of a region that draws -/
theorem rstep_append_own {P : Program} {ops : Array Oper} {o : Oper} {a : Act} {w : World} {K : Act → World → Prop} {Q : Exit → Act → World → Prop} {E : Prop}
    (hg : o.guard = none) (s x : Operand) (t : TypeId) (hop : o.op = Op.call { callee := Callee.builtin Builtin.append, args := #[s, x], argTypes := #[t, t] })
    (base : Nat) (e : TypeId) (i : TypeInfo) (z : Value) (size bytes : Nat) (h1 : P.underlying t = some (.slice e)) (h2 : P.info? e = some i) (h3 : i.zero = some z) (h4 : i.size = size) (h5 : i.bytes = bytes) (h6 : z.cells.size = size) (h7 : 0 < size)
    (v : Value) (n : Nat) (xs : List Value) (hs : a.eval s = v) (hown : w.ownsRow base e size v n xs)
    (ad : Addr) (m c : Nat) (news : List Value) (hx : a.eval x = .slice (some ad) m c) (hn : news.length = m * size) (hc : ∀ j u, news[j]? = some u → w.cell? (ad.add j) = some u) (h1c : ∀ u ∈ news, u.oneCell' = true)
    (b1 : n + m ≤ maxLen) (b2 : (n + m) * bytes ≤ 140737488355328) (hbase : base ≤ w.heap.size)
    (hK : ∀ v' w', w'.ownsRow base e size v' (n + m) (xs ++ news) → w.grownBy w' v.ownBlock → K (a.put o.dst v') w') :
    if Region.wanted o (yielded ops a.tmps) = true then Oper.wp P o a w K Q else E := by
  have hw : Region.wanted o (yielded ops a.tmps) = true := by simp [Region.wanted, hg]
  rw [if_pos hw]
  exact wp_append_own w s x t hop base e i z size bytes h1 h2 h3 h4 h5 h6 h7 v n xs hs hown ad m c news hx hn hc h1c b1 b2 hbase fun v' w' g2 g3 _ => hK v' w' g2 g3
theorem own_form1 {w : World} {base k : Nat} {v : Value} {xs : List Value} {e : TypeId} (h : w.ownsRow base e 1 v k xs) : ∃ a c, v = .slice a k c := by
  rcases h.2 with ⟨rfl, rfl⟩ | ⟨g, cap, cur, rfl, _⟩
  · exact ⟨none, 0, rfl⟩
  · exact ⟨_, cap, rfl⟩
theorem new_at1 (W : World) (y : Value) (n : Nat) (h : W.heap.size = n) (t : TypeId) : ∀ j u, [y][j]? = some u → (W.alloc (.cells #[y] t)).cell? ((⟨n, 0, none⟩ : Addr).add j) = some u := by
  subst h
  intro j u hu
  rw [Addr.add_lit]
  have hB := Blk.new W t #[y]
  rcases j with _ | j
  · have := hB.cell 0
    simp at hu
    rw [← hu]
    exact this
  · simp at hu
theorem cell_far {w : World} {p a : Addr} {x : Value} (h : w.cell? a = some x) (hne : a.block ≠ p.block) (u : Value) : (w.setCell p u).cell? a = some x := (World.cell?_of_block (w := w) (a := a) (Below.heap_setCell w p u a.block hne)).trans h
theorem kp_base {F : Nat → Prop} {a b c : World} (h : Kp F a b) (hb : Below a.heap.size b c) : Kp F a c :=
  ⟨hb.os.trans h.os, hb.tape.trans h.tape, hb.output.trans h.output, Nat.le_trans h.size hb.size, fun k hk hf => (hb.block k hk).trans (h.block k hk hf)⟩
/-- a row of bytes of the call's own stands in the row of pages -/
theorem rpage_own {w W0 wr : World} {X : Nat → Prop} {o : Rb} {nb np sz : Nat} {dn : Bool} {I k : Nat} {v : Value} {x : Int} {cs0 : Array Value} (h : RcAt W0 X o nb np sz dn) (h0 : Blk W0 o.p 40 cs0)
    (hb : Blk wr o.p 40 (cs0.setIfInBounds I v)) (hO : wr.ownsRow W0.heap.size 5 1 v k ((List.replicate k x).map (Value.int .u8))) (hx : U8 x) (hk : Kp (fun b => b = o.p) W0 wr) (hw : Kp o.F w W0) :
    RcAt wr X o nb np sz dn ∧ Kp o.F w wr := by
  obtain ⟨a, cap, rfl, hr, hl, hc⟩ := Rw.of_own hO (fun m hm => by rw [(List.mem_replicate.1 hm).2]; exact hx)
  have hv : BvX wr X (.slice a k cap) := by
    refine ⟨a, List.replicate k x, cap, by rw [hl], by rw [hl]; exact hc, hr, fun b off s e hne gx => ?_⟩
    have hlt := h.old _ gx
    rcases hO.2 with ⟨h1, h2⟩ | ⟨g, cp, cur, h1, hg, -⟩
    · subst h2; exact hne rfl
    · injection h1 with e1 e2 e3
      rw [e1] at e
      injection e with e
      injection e with e1 e2 e3
      omega
  have hF : ∀ b, b = o.p → X b := fun b e => e ▸ h.inX _ (.inr (.inl rfl))
  obtain ⟨n1, n2, n3, n4, n5, n6, n7, n8, n9, n10, n11, n12, n13, n14, n15⟩ := h.ne
  refine ⟨⟨h.good, fun b hb => Nat.lt_of_lt_of_le (h.old b hb) hk.size, h.inX, h.ne, ?_, ?_, ?_, ?_, ?_, ?_⟩, hw.trans (hk.mono fun b e => .inr (.inl e))⟩
  · obtain ⟨fv, fl, si, st, rd, h1, h2⟩ := h.chip
    exact ⟨fv, fl, si, st, rd, h1.kp hk n1, h2.kp hk hF⟩
  · obtain ⟨cs, h1, h2, h3⟩ := h.pages
    have e : cs = cs0 := by
      have := h1.symm.trans h0
      injection this with this
      injection this
    subst e
    exact ⟨_, hb, row_putP (BvX wr X) ⟨h2, fun j hj => (h3 j hj).imp fun v hv => ⟨hv.1, hv.2.kp hk hF⟩⟩ I _ hv⟩
  · obtain ⟨cs, h1, h2⟩ := h.next
    exact ⟨cs, h1.kp hk (fun e => n6 e.symm), h2⟩
  · obtain ⟨cs, h1, h2⟩ := h.broken
    exact ⟨cs, h1.kp hk (fun e => n7 e.symm), h2⟩
  · obtain ⟨cs, h1, h2⟩ := h.bad
    exact ⟨cs, h1.kp hk (fun e => n8 e.symm), h2⟩
  · obtain ⟨cs, h1, h2⟩ := h.wear
    exact ⟨cs, h1.kp hk (fun e => n9 e.symm), h2⟩
theorem BvX.none {w : World} {X : Nat → Prop} : BvX w X (.slice none 0 0) := ⟨Option.none, [], 0, rfl, Nat.le_refl _, RwX.nil⟩

set_option maxRecDepth 100000 in
set_option maxHeartbeats 20000000 in
theorem rerase_any {w : World} {X : Nat → Prop} {o : Rb} {nb np sz : Nat} {dn : Bool} (h : RcAt w X o nb np sz dn) (k : Int) :
    Calls Tryz.prog 75 #[.pointer (some ⟨o.g, 0, none⟩), .int .i64 k] w (RQ w X o nb np sz) := by
  obtain ⟨i0, hi, hz0, hz1, hz2⟩ := info_parts Tryz.info8
  have HP := Lib.hid (rplace_any h k 0)
  by_cases hp : placeF nb np dn k 0 = 0
  · rw [hp] at HP
    obtain ⟨-, h0, h1, h2, h3⟩ := placeF_ok hp
    obtain ⟨n, rfl⟩ : ∃ n : Nat, k = n := ⟨k.toNat, by omega⟩
    have hn : n < nb := by omega
    have hnb : nb < 129 := h.good.2.1
    have hnp : np < 33 := h.good.2.2.2.1
    have hsz : sz ≤ 512 := by have := h.good; unfold Gd at this; omega
    have hn0 : (0 : Int) ≤ (n : Int) := by omega
    have hn1 : (n : Int) < (nb : Int) := by omega
    obtain ⟨r3, r4, r5, r6, -⟩ := h.rows
    obtain ⟨-, -, ⟨zb, cb⟩, -⟩ := h.row hn
    have HS := Lib.hid (rstroke_any h)
    have H := Lib.hid h
    clear h hp h0 h1 h2 h3
    rcases zb with _ | _
    · go_enter Tryz.func75, Tryz.ntmps75
      go_wp2_with fail
      refine HP.out.mono ?_
      rintro e w' ⟨rfl, rfl⟩
      go_wp2_with fail
      refine HS.out.mono ?_
      rintro r w1 ⟨⟨f, da, dc, rfl, hda, hdc⟩, hch, hkp⟩
      have C2 := Lib.hid (hch.below ((Below.refl _ _).alloc (Nat.le_refl _) (.cells #[.int .i64 f.at', .int .i64 f.kind, .slice da f.data.length dc] 51)))
      have K2 := Lib.hid (hkp.alloc (.cells #[.int .i64 f.at', .int .i64 f.kind, .slice da f.data.length dc] 51))
      have B2 := Lib.hid (Blk.new w1 51 #[.int .i64 f.at', .int .i64 f.kind, .slice da f.data.length dc])
      have D2 := Lib.hid (hda.kp (F := fun _ => False) (Kp.of_below ((Below.refl _ _).alloc (Nat.le_refl _) (.cells #[.int .i64 f.at', .int .i64 f.kind, .slice da f.data.length dc] 51))) (fun _ g => g.elim))
      obtain ⟨y0, y1, y2, y3, y4, y5⟩ := hch.gfar
      clear hch hkp hda HS H r3 r4 r5 r6 cb
      go_upto_region 7 with (fail)
      generalize (w1.alloc (.cells #[.int .i64 f.at', .int .i64 f.kind, .slice da f.data.length dc] 51)) = W at C2 K2 B2 D2 ⊢
      generalize w1.heap.size = fb at B2 y0 y1 y2 y3 y4 y5 ⊢
      have c1 : W.cell? ⟨fb, 1, none⟩ = some (.int .i64 f.kind) := B2.out.cell 1
      by_cases e1 : f.kind = 1
      · have t4 : (f.kind == 1) = true := beq_iff_eq.2 e1
        obtain ⟨c10, f10⟩ := C2.out.down
        have HR2 := Lib.hid (C2.out.putd true)
        have HK2 := Lib.hid (kp_set (i := 10) (u := .bool true) K2.out (q := o.g) (.inl rfl))
        clear e1
        go_wp2
        go_ret
        exact ⟨⟨4, rfl⟩, ⟨true, HR2.out⟩, HK2.out⟩
      · have t4 : (f.kind == 1) = false := beq_eq_false_iff_ne.2 e1
        clear e1
        obtain ⟨-, -, -, -, r7⟩ := C2.out.rows
        obtain ⟨-, -, -, ⟨z7, c7⟩⟩ := C2.out.row hn
        have f7 := (C2.out.froz n).2.2.2.2.2
        have C3 := Lib.hid ((C2.out.putv n (wrap64 (z7 + 1))).below (Below.refl _ _).drew)
        have K3 := Lib.hid (kp_set (i := n) (u := .int .i64 (wrap64 (z7 + 1))) K2.out (q := o.v) (by simp [Rb.F])).drew
        have B3 := Lib.hid (show Blk (W.setCell ⟨o.v, n, none⟩ (.int .i64 (wrap64 (z7 + 1)))).drew fb 51 _ from B2.out.far (p := ⟨o.v, n, none⟩) (show fb ≠ o.v by omega) (.int .i64 (wrap64 (z7 + 1))))
        have D3 := Lib.hid (D2.out.kp (kp_set (i := n) (u := .int .i64 (wrap64 (z7 + 1))) (Kp.refl o.F W) (q := o.v) (by simp [Rb.F])).drew C2.out.inX)
        have hvg : o.v ≠ o.g := fun e => C2.out.ne.2.2.2.2.1 e.symm
        go_upto_region 10 with (fail)
        go_region
        generalize (W.setCell ⟨o.v, n, none⟩ (.int .i64 (wrap64 (z7 + 1)))).drew = W3 at C3 K3 B3 D3 ⊢
        clear c1 r7 c7 f7 C2 K2 B2 D2
        have c1 : W3.cell? ⟨fb, 1, none⟩ = some (.int .i64 f.kind) := B3.out.cell 1
        by_cases e2 : f.kind = 2 ∨ f.kind = 3
        · go_upto_region 11 with (fail)
          go_cut [7] (fun s7 wx => s7 = .bool true ∧ wx = W3)
          case first =>
            rcases e2 with e2 | e2
            · have t5 : (f.kind == 2) = true := beq_iff_eq.2 e2
              clear e2
              go_wp2
              go_meet
              exact ⟨rfl, rfl⟩
            · have t5 : (f.kind == 2) = false := by rw [e2]; rfl
              have t6 : (f.kind == 3) = true := beq_iff_eq.2 e2
              clear e2
              go_wp2
              go_meet
              exact ⟨rfl, rfl⟩
          case rest =>
            obtain ⟨rfl, rfl⟩ := hcut
            clear e2
            go_wp2_with fail
            go_loopw [8] (fun i wr => ∃ k : Nat, k ≤ np ∧ i = .int .i64 k ∧ Hid (RcAt wr X o nb np sz dn) ∧ Hid (Kp o.F w wr) ∧ Hid (Blk wr fb 51 #[.int .i64 f.at', .int .i64 f.kind, .slice da f.data.length dc]) ∧ Hid (RwX wr X da f.data)) (fun i _ => np - (intOf i).toNat)
            case atStart => exact ⟨0, by omega, rfl, C3, K3, B3, D3⟩
            case round =>
              obtain ⟨k, hk, rfl, hC, hK, hB, hD⟩ := hrel
              obtain ⟨-, g1, g2, -, -⟩ := hC.out.geo
              clear C3 K3 B3 D3 c1
              by_cases hlt : k < np
              · have kn : (0 : Int) ≤ (k : Int) := by omega
                have kl : (k : Int) < (np : Int) := by omega
                obtain ⟨P, N, I, hP, hN, hI, hPw, hIw, hIN, hN4, hi0, hi1⟩ := page_no hn hlt hnb hnp
                obtain ⟨r3, -, -, -, -⟩ := hC.out.rows
                rw [hN] at r3
                obtain ⟨A3, l3, k3, hp3, -, -⟩ := hC.out.page (i := I) (by rw [hN]; exact hIN)
                have hf3 := (hC.out.froz I).2.1
                clear hP hI
                have C4 := Lib.hid (hC.out.putp I BvX.none)
                have K4 := Lib.hid (kp_set (i := I) (u := .slice none 0 0) hK.out (q := o.p) (by simp [Rb.F]))
                have B4 := Lib.hid (hB.out.far (p := ⟨o.p, I, none⟩) (show fb ≠ o.p by omega) (.slice none 0 0))
                have D4 := Lib.hid (hD.out.kp (kp_set (i := I) (u := .slice none 0 0) (Kp.refl o.F wr) (q := o.p) (by simp [Rb.F])) hC.out.inX)
                have hop : o.p < wr.heap.size := hC.out.gfar.2.1
                by_cases hd : k < f.data.length
                · have kd : (k : Int) < (f.data.length : Int) := by omega
                  rcases hD.out.1.2.2 with h0 | ⟨db, dof, rfl, hcd⟩
                  · rw [h0] at hd; simp at hd
                  have hxc := hcd k hd
                  have hx8 : U8 (f.data.getD k 0) := by
                    have hh := hD.out.1.1
                    rw [List.getD_eq_getElem?_getD, List.getElem?_eq_getElem hd]
                    exact hh _ (List.getElem_mem hd)
                  have hnd : ¬ X db := hD.out.2 db dof none rfl (fun e => by rw [e] at hd; simp at hd)
                  have hml : f.data.length ≤ maxLen := hD.out.1.2.1
                  unfold maxLen at hml
                  have c2 : wr.cell? ⟨fb, 2, none⟩ = some (.slice (some ⟨db, dof, none⟩) f.data.length dc) := hB.out.cell 2
                  generalize f.data.getD k 0 = x at hxc hx8
                  clear hcd
                  by_cases x0 : 0 < x
                  · obtain ⟨csr, hcsr, hszr, -⟩ := hC.out.pages
                    have hdp : db ≠ o.p := fun e => hnd (e ▸ hC.out.inX _ (by simp [Rb.F]))
                    have hcs0 := hcsr.put I (.slice none 0 0)
                    have hxc0 : (wr.setCell ⟨o.p, I, none⟩ (.slice none 0 0)).cell? ⟨db, dof + k, none⟩ = some (.int .u8 x) := (World.cell?_of_block (w := wr) (a := ⟨db, dof + k, none⟩) (Below.heap_setCell wr ⟨o.p, I, none⟩ (.slice none 0 0) db hdp)).trans hxc
                    have hSS : (csr.setIfInBounds I (.slice none 0 0)).setIfInBounds I (.slice none 0 0) = csr.setIfInBounds I (.slice none 0 0) := Array.setIfInBounds_setIfInBounds ..
                    have hIz : I < (csr.setIfInBounds I (.slice none 0 0)).size := by rw [Array.size_setIfInBounds, hszr]; rw [hN]; exact hIN
                    have hop0 : o.p < (wr.setCell ⟨o.p, I, none⟩ (.slice none 0 0)).heap.size := Nat.lt_of_lt_of_le hop (size_set ..)
                    clear hcsr hszr
                    generalize csr.setIfInBounds I (.slice none 0 0) = cs0 at hcs0 hSS hIz
                    have HSS := Lib.hid hSS
                    clear hSS
                    go_upto_region 20 with (fail)
                    generalize wr.setCell ⟨o.p, I, none⟩ (.slice none 0 0) = W0 at C4 K4 B4 D4 hcs0 hxc0 hop0 ⊢
                    have HCS := Lib.hid hcs0
                    clear hC hK hB hD hcs0 hxc c2 g1 g2 r3 hp3 hf3 hop
                    have gg1 := C4.out.geo.2.1
                    have gg2 := C4.out.geo.2.2.1
                    have ggl := C4.out.geo.2.2.2.2
                    have gg3 := C4.out.rows.1
                    rw [hN] at gg3
                    clear hN
                    have hgp : o.g ≠ o.p := C4.out.ne.1
                    have hFX : Hid (∀ b, b = o.p → X b) := Lib.hid (fun b e => e ▸ C4.out.inX _ (by simp [Rb.F]))
                    have hbp : fb ≠ o.p := by omega
                    go_wp2_with fail
                    go_loopw [10] (fun i wr => ∃ (t : Nat) (v : Value), t ≤ sz + 32 ∧ i = .int .i64 t ∧ Hid (Blk wr o.p 40 (cs0.setIfInBounds I v)) ∧ Hid (wr.ownsRow W0.heap.size 5 1 v t ((List.replicate t x).map (Value.int .u8))) ∧ Hid (Kp (fun b => b = o.p) W0 wr)) (fun i _ => sz + 32 - (intOf i).toNat)
                    case atStart => exact ⟨0, .slice none 0 0, by omega, rfl, Lib.hid (by rw [HSS.out]; exact HCS.out), Lib.hid (World.ownsRow_nil _ _ _ _), Lib.hid (Kp.refl _ _)⟩
                    case round =>
                      obtain ⟨t, v, ht, rfl, hBp, hO, hKi⟩ := hrel
                      have q2 := (hKi.out.cell (p := ⟨o.g, 2, none⟩) ggl hgp).trans gg2
                      have q3 := (hKi.out.cell (p := ⟨o.g, 3, none⟩) ggl hgp).trans gg3
                      have qc2 : wr.cell? ⟨fb, 2, none⟩ = some (.slice (some ⟨db, dof, none⟩) f.data.length dc) := (B4.out.kp hKi.out hbp).cell 2
                      have qx := (hKi.out.cell (p := ⟨db, dof + k, none⟩) (block_lt_of_cell hxc0) hdp).trans hxc0
                      have qp : wr.cell? ⟨o.p, I, none⟩ = some v := (hBp.out.cell I).trans (set_at hIz)
                      have qf : wr.frozen? ⟨o.p, I, none⟩ = false := hBp.out.frozen I
                      by_cases e1 : t < sz + 32
                      · have tl : (t : Int) < (sz : Int) + 32 := by omega
                        by_cases e2 : 1 < x
                        · have hown := hO.out
                          have hsz0 : W0.heap.size ≤ wr.heap.size := hKi.out.size
                          have hrep : (List.replicate t x).map (Value.int .u8) ++ [Value.int .u8 x] = (List.replicate (t + 1) x).map (Value.int .u8) := by rw [List.replicate_succ', List.map_append]; rfl
                          have HREP := Lib.hid hrep
                          clear hrep
                          have HOwn := Lib.hid hown
                          have qpa := fun ob => cell_alloc qp ob
                          clear hown
                          go_upto_region 23 with (fail)
                          refine wp_region_held_drew (S := fun w' => w'.cell? ⟨o.g, 3, none⟩ = some (.slice (some ⟨o.p, 0, none⟩) N N) ∧ w'.cell? ⟨fb, 2, none⟩ = some (.slice (some ⟨db, dof, none⟩) f.data.length dc) ∧ w'.cell? ⟨db, dof + k, none⟩ = some (.int .u8 x)) (by kernel_rfl) ⟨q3, qc2, qx⟩ (fun hHeld => ?_)
                          refine wpAnyH_take (i := 0) (v := .pointer (some ⟨o.g, 0, none⟩)) rfl (by kernel_rfl) (by kernel_rfl) (by kernel_rfl) (fun _ _ _ h => h) (Or.inl ⟨by kernel_rfl, ?_⟩) hHeld ?_
                          · intro w' hSw
                            obtain ⟨z0, z1, z2⟩ := hSw
                            go_simp
                          refine wpAnyH_take (i := 1) (v := .pointer (some ⟨o.g, 0, none⟩)) rfl (by kernel_rfl) (by kernel_rfl) (by kernel_rfl) (fun _ _ _ h => h) (Or.inl ⟨by kernel_rfl, ?_⟩) hHeld ?_
                          · intro w' hSw
                            obtain ⟨z0, z1, z2⟩ := hSw
                            go_simp
                          refine wpAnyH_take (i := 2) (v := .pointer (some ⟨o.g, 3, none⟩)) rfl (by kernel_rfl) (by kernel_rfl) (by kernel_rfl) (fun _ _ _ h => h) (Or.inl ⟨by kernel_rfl, ?_⟩) hHeld ?_
                          · intro w' hSw
                            obtain ⟨z0, z1, z2⟩ := hSw
                            go_simp
                          refine wpAnyH_take (i := 3) (v := .slice (some ⟨o.p, 0, none⟩) N N) rfl (by kernel_rfl) (by kernel_rfl) (by kernel_rfl) (fun _ _ _ h => h) (Or.inl ⟨by kernel_rfl, ?_⟩) hHeld ?_
                          · intro w' hSw
                            obtain ⟨z0, z1, z2⟩ := hSw
                            go_simp
                          refine wpAnyH_take (i := 4) (v := .int .i64 I) rfl (by kernel_rfl) (by kernel_rfl) (by kernel_rfl) (fun _ _ _ h => h) (Or.inl ⟨by kernel_rfl, ?_⟩) hHeld ?_
                          · intro w' hSw
                            obtain ⟨z0, z1, z2⟩ := hSw
                            go_simp
                          refine wpAnyH_take (i := 5) (v := .pointer (some ⟨o.g, 0, none⟩)) rfl (by kernel_rfl) (by kernel_rfl) (by kernel_rfl) (fun _ _ _ h => h) (Or.inl ⟨by kernel_rfl, ?_⟩) hHeld ?_
                          · intro w' hSw
                            obtain ⟨z0, z1, z2⟩ := hSw
                            go_simp
                          refine wpAnyH_take (i := 6) (v := .pointer (some ⟨o.g, 0, none⟩)) rfl (by kernel_rfl) (by kernel_rfl) (by kernel_rfl) (fun _ _ _ h => h) (Or.inl ⟨by kernel_rfl, ?_⟩) hHeld ?_
                          · intro w' hSw
                            obtain ⟨z0, z1, z2⟩ := hSw
                            go_simp
                          refine wpAnyH_take (i := 7) (v := .pointer (some ⟨o.g, 3, none⟩)) rfl (by kernel_rfl) (by kernel_rfl) (by kernel_rfl) (fun _ _ _ h => h) (Or.inl ⟨by kernel_rfl, ?_⟩) hHeld ?_
                          · intro w' hSw
                            obtain ⟨z0, z1, z2⟩ := hSw
                            go_simp
                          refine wpAnyH_take (i := 8) (v := .slice (some ⟨o.p, 0, none⟩) N N) rfl (by kernel_rfl) (by kernel_rfl) (by kernel_rfl) (fun _ _ _ h => h) (Or.inl ⟨by kernel_rfl, ?_⟩) hHeld ?_
                          · intro w' hSw
                            obtain ⟨z0, z1, z2⟩ := hSw
                            go_simp
                          refine wpAnyH_take (i := 9) (v := .int .i64 I) rfl (by kernel_rfl) (by kernel_rfl) (by kernel_rfl) (fun _ _ _ h => h) (Or.inl ⟨by kernel_rfl, ?_⟩) hHeld ?_
                          · intro w' hSw
                            obtain ⟨z0, z1, z2⟩ := hSw
                            go_simp
                          refine wpAnyH_take (i := 10) (v := .pointer (some ⟨o.p, I, none⟩)) rfl (by kernel_rfl) (by kernel_rfl) (by kernel_rfl) (fun _ _ _ h => h) (Or.inl ⟨by kernel_rfl, ?_⟩) hHeld ?_
                          · intro w' hSw
                            obtain ⟨z0, z1, z2⟩ := hSw
                            go_simp
                          refine wpAnyH_take (i := 12) (v := .pointer (some ⟨fb, 2, none⟩)) rfl (by kernel_rfl) (by kernel_rfl) (by kernel_rfl) (fun _ _ _ h => h) (Or.inl ⟨by kernel_rfl, ?_⟩) hHeld ?_
                          · intro w' hSw
                            obtain ⟨z0, z1, z2⟩ := hSw
                            go_simp
                          refine wpAnyH_take (i := 13) (v := .slice (some ⟨db, dof, none⟩) f.data.length dc) rfl (by kernel_rfl) (by kernel_rfl) (by kernel_rfl) (fun _ _ _ h => h) (Or.inl ⟨by kernel_rfl, ?_⟩) hHeld ?_
                          · intro w' hSw
                            obtain ⟨z0, z1, z2⟩ := hSw
                            go_simp
                          refine wpAnyH_take (i := 14) (v := .int .i64 k) rfl (by kernel_rfl) (by kernel_rfl) (by kernel_rfl) (fun _ _ _ h => h) (Or.inl ⟨by kernel_rfl, ?_⟩) hHeld ?_
                          · intro w' hSw
                            obtain ⟨z0, z1, z2⟩ := hSw
                            go_simp
                          refine wpAnyH_take (i := 15) (v := .pointer (some ⟨db, dof + k, none⟩)) rfl (by kernel_rfl) (by kernel_rfl) (by kernel_rfl) (fun _ _ _ h => h) (Or.inl ⟨by kernel_rfl, ?_⟩) hHeld ?_
                          · intro w' hSw
                            obtain ⟨z0, z1, z2⟩ := hSw
                            go_simp
                          refine wpAnyH_take (i := 16) (v := .int .u8 x) rfl (by kernel_rfl) (by kernel_rfl) (by kernel_rfl) (fun _ _ _ h => h) (Or.inl ⟨by kernel_rfl, ?_⟩) hHeld ?_
                          · intro w' hSw
                            obtain ⟨z0, z1, z2⟩ := hSw
                            go_simp
                          try simp only [Act.put, List.setIfInBounds_toArray]
                          refine wpAnyH_ready (rs := [11, 17]) (by kernel_rfl) (by simp) ?_
                          refine AllReadyH.cons rfl (fun K hK => ?_) (AllReadyH.cons rfl (fun K hK => ?_) AllReadyH.nil)
                          · go_simp
                            refine hK.out _ _ hHeld (fun hHeld1 => ?_)
                            try simp only [Act.put, List.setIfInBounds_toArray, List.set]
                            refine wpAnyH_ready (rs := [17]) (by kernel_rfl) (by simp) ?_
                            refine AllReadyH.cons rfl (fun K hK => ?_) AllReadyH.nil
                            go_simp
                            refine hK.out _ _ ⟨cell_alloc q3 _, cell_alloc qc2 _, cell_alloc qx _⟩ (fun hHeld2 => ?_)
                            try simp only [Act.put, List.setIfInBounds_toArray, List.set]
                            refine wpAnyH_ready (rs := [18]) (by kernel_rfl) (by simp) ?_
                            refine AllReadyH.cons rfl (fun K hK => ?_) AllReadyH.nil
                            refine rstep_append_own rfl (.tmp 128) (.tmp 134) 40 rfl W0.heap.size 5 i0 (.int .u8 0) 1 1 Tryz.underlying40 hi hz0 hz1 hz2 rfl (by decide) v t ((List.replicate t x).map (Value.int .u8)) (by simp [Act.eval]) (HOwn.out.alloc _).drew ⟨wr.heap.size, 0, none⟩ 1 1 [.int .u8 x] (by simp [Act.eval]) rfl (new_at1 _ _ _ rfl _) (by intro u hu; simp at hu; subst hu; rfl) (by unfold maxLen; omega) (by omega) (by simp; omega) ?_
                            intro v' w' hown' hgrow
                            obtain ⟨a', c', rfl⟩ := own_form1 hown'
                            have hb' := (Below.refl W0.heap.size _).grown hgrow (by simp; omega) (fun g hg => (HOwn.out.lt g hg).1)
                            have hKW := kp_base (hKi.out.alloc (.cells #[.int .u8 x] 5)).drew hb'
                            have hBW := Blk.below (show Blk (wr.alloc (.cells #[.int .u8 x] 5)).drew o.p 40 _ from hBp.out.alloc _) hb' hop0
                            have zp := (hBW.cell I).trans (set_at hIz)
                            have zf := hBW.frozen I
                            have y3 := (hKW.cell (p := ⟨o.g, 3, none⟩) ggl hgp).trans gg3
                            have y4 : w'.cell? ⟨fb, 2, none⟩ = some (.slice (some ⟨db, dof, none⟩) f.data.length dc) := (B4.out.kp hKW hbp).cell 2
                            have y5 := (hKW.cell (p := ⟨db, dof + k, none⟩) (block_lt_of_cell hxc0) hdp).trans hxc0
                            have B7 : Hid (Blk (w'.setCell ⟨o.p, I, none⟩ (.slice a' (t + 1) c')) o.p 40 (cs0.setIfInBounds I (.slice a' (t + 1) c'))) := Lib.hid (by have hh := hBW.put I (.slice a' (t + 1) c'); rwa [Array.setIfInBounds_setIfInBounds] at hh)
                            have O7 := Lib.hid (ownsRow_setCell_below hown' (a := ⟨o.p, I, none⟩) hop0 (.slice a' (t + 1) c'))
                            rw [HREP.out] at O7
                            have K7 := Lib.hid (hKW.setCell (p := ⟨o.p, I, none⟩) (.inl rfl) (.slice a' (t + 1) c'))
                            clear hown' hb' hKW hBW hgrow
                            refine hK.out _ _ ⟨y3, y4, y5⟩ (fun hHeld3 => ?_)
                            try simp only [Act.put, List.setIfInBounds_toArray]
                            refine wpAnyH_ready (rs := [19]) (by kernel_rfl) (by simp) ?_
                            refine AllReadyH.cons rfl (fun K hK => ?_) AllReadyH.nil
                            go_simp
                            refine hK.out _ _ hHeld3 (fun hHeld4 => ?_)
                            try simp only [Act.put, List.setIfInBounds_toArray, List.set]
                            refine wpAnyH_ready (rs := [20]) (by kernel_rfl) (by simp) ?_
                            refine AllReadyH.cons rfl (fun K hK => ?_) AllReadyH.nil
                            go_simp
                            refine hK.out _ _ ⟨cell_far y3 hgp _, cell_far y4 hbp _, cell_far y5 hdp _⟩ (fun _ => ?_)
                            refine wpAnyH_done (by kernel_rfl) ?_ _
                            clear y3 y4 y5 zp zf
                            go_wp2
                            go_roundw
                            case rel => exact ⟨t + 1, _, by omega, by go_num, B7, O7, K7⟩
                            case measure => simp [intOf]; omega
                          · go_simp
                            refine hK.out _ _ ⟨cell_alloc q3 _, cell_alloc qc2 _, cell_alloc qx _⟩ (fun hHeld1 => ?_)
                            try simp only [Act.put, List.setIfInBounds_toArray, List.set]
                            refine wpAnyH_ready (rs := [11]) (by kernel_rfl) (by simp) ?_
                            refine AllReadyH.cons rfl (fun K hK => ?_) AllReadyH.nil
                            go_simp
                            refine hK.out _ _ hHeld1 (fun hHeld2 => ?_)
                            try simp only [Act.put, List.setIfInBounds_toArray, List.set]
                            refine wpAnyH_ready (rs := [18]) (by kernel_rfl) (by simp) ?_
                            refine AllReadyH.cons rfl (fun K hK => ?_) AllReadyH.nil
                            refine rstep_append_own rfl (.tmp 128) (.tmp 134) 40 rfl W0.heap.size 5 i0 (.int .u8 0) 1 1 Tryz.underlying40 hi hz0 hz1 hz2 rfl (by decide) v t ((List.replicate t x).map (Value.int .u8)) (by simp [Act.eval]) (HOwn.out.alloc _).drew ⟨wr.heap.size, 0, none⟩ 1 1 [.int .u8 x] (by simp [Act.eval]) rfl (new_at1 _ _ _ rfl _) (by intro u hu; simp at hu; subst hu; rfl) (by unfold maxLen; omega) (by omega) (by simp; omega) ?_
                            intro v' w' hown' hgrow
                            obtain ⟨a', c', rfl⟩ := own_form1 hown'
                            have hb' := (Below.refl W0.heap.size _).grown hgrow (by simp; omega) (fun g hg => (HOwn.out.lt g hg).1)
                            have hKW := kp_base (hKi.out.alloc (.cells #[.int .u8 x] 5)).drew hb'
                            have hBW := Blk.below (show Blk (wr.alloc (.cells #[.int .u8 x] 5)).drew o.p 40 _ from hBp.out.alloc _) hb' hop0
                            have zp := (hBW.cell I).trans (set_at hIz)
                            have zf := hBW.frozen I
                            have y3 := (hKW.cell (p := ⟨o.g, 3, none⟩) ggl hgp).trans gg3
                            have y4 : w'.cell? ⟨fb, 2, none⟩ = some (.slice (some ⟨db, dof, none⟩) f.data.length dc) := (B4.out.kp hKW hbp).cell 2
                            have y5 := (hKW.cell (p := ⟨db, dof + k, none⟩) (block_lt_of_cell hxc0) hdp).trans hxc0
                            have B7 : Hid (Blk (w'.setCell ⟨o.p, I, none⟩ (.slice a' (t + 1) c')) o.p 40 (cs0.setIfInBounds I (.slice a' (t + 1) c'))) := Lib.hid (by have hh := hBW.put I (.slice a' (t + 1) c'); rwa [Array.setIfInBounds_setIfInBounds] at hh)
                            have O7 := Lib.hid (ownsRow_setCell_below hown' (a := ⟨o.p, I, none⟩) hop0 (.slice a' (t + 1) c'))
                            rw [HREP.out] at O7
                            have K7 := Lib.hid (hKW.setCell (p := ⟨o.p, I, none⟩) (.inl rfl) (.slice a' (t + 1) c'))
                            clear hown' hb' hKW hBW hgrow
                            refine hK.out _ _ ⟨y3, y4, y5⟩ (fun hHeld3 => ?_)
                            try simp only [Act.put, List.setIfInBounds_toArray]
                            refine wpAnyH_ready (rs := [19]) (by kernel_rfl) (by simp) ?_
                            refine AllReadyH.cons rfl (fun K hK => ?_) AllReadyH.nil
                            go_simp
                            refine hK.out _ _ hHeld3 (fun hHeld4 => ?_)
                            try simp only [Act.put, List.setIfInBounds_toArray, List.set]
                            refine wpAnyH_ready (rs := [20]) (by kernel_rfl) (by simp) ?_
                            refine AllReadyH.cons rfl (fun K hK => ?_) AllReadyH.nil
                            go_simp
                            refine hK.out _ _ ⟨cell_far y3 hgp _, cell_far y4 hbp _, cell_far y5 hdp _⟩ (fun _ => ?_)
                            refine wpAnyH_done (by kernel_rfl) ?_ _
                            clear y3 y4 y5 zp zf
                            go_wp2
                            go_roundw
                            case rel => exact ⟨t + 1, _, by omega, by go_num, B7, O7, K7⟩
                            case measure => simp [intOf]; omega
                        · obtain ⟨p1, p2⟩ := rpage_own C4.out HCS.out hBp.out hO.out hx8 hKi.out K4.out
                          have P1 := Lib.hid p1
                          have P2 := Lib.hid p2
                          have B6 := Lib.hid (B4.out.kp hKi.out hbp)
                          have D6 := Lib.hid (D4.out.kp hKi.out hFX.out)
                          clear p1 p2
                          go_wp2
                          go_roundw
                          case rel => exact ⟨k + 1, by omega, by go_num, P1, P2, B6, D6⟩
                          case measure => simp [intOf]; omega
                      · have tl : ¬ (t : Int) < (sz : Int) + 32 := by omega
                        obtain ⟨p1, p2⟩ := rpage_own C4.out HCS.out hBp.out hO.out hx8 hKi.out K4.out
                        have P1 := Lib.hid p1
                        have P2 := Lib.hid p2
                        have B6 := Lib.hid (B4.out.kp hKi.out hbp)
                        have D6 := Lib.hid (D4.out.kp hKi.out hFX.out)
                        clear p1 p2
                        go_wp2
                        go_roundw
                        case rel => exact ⟨k + 1, by omega, by go_num, P1, P2, B6, D6⟩
                        case measure => simp [intOf]; omega
                  · go_wp2
                    go_roundw
                    case rel => exact ⟨k + 1, by omega, by go_num, hC, hK, hB, hD⟩
                    case measure => simp [intOf]; omega
                · have kd : ¬ (k : Int) < (f.data.length : Int) := by omega
                  have c2 : wr.cell? ⟨fb, 2, none⟩ = some (.slice da f.data.length dc) := hB.out.cell 2
                  have hml : f.data.length ≤ maxLen := hD.out.1.2.1
                  unfold maxLen at hml
                  go_wp2
                  go_roundw
                  case rel => exact ⟨k + 1, by omega, by go_num, hC, hK, hB, hD⟩
                  case measure => simp [intOf]; omega
              · have kl : ¬ (k : Int) < (np : Int) := by omega
                obtain ⟨-, r4, r5, -, -⟩ := hC.out.rows
                obtain ⟨⟨z4, c4⟩, ⟨z5, c5⟩, -, -⟩ := hC.out.row hn
                obtain ⟨-, -, f4, f5, -, -⟩ := hC.out.froz n
                obtain ⟨c10, f10⟩ := hC.out.down
                have c1 : wr.cell? ⟨fb, 1, none⟩ = some (.int .i64 f.kind) := hB.out.cell 1
                obtain ⟨n1, n2, n3, n4, n5, n6, n7, n8, n9, n10, n11, n12, n13, n14, n15⟩ := hC.out.ne
                have hbk : fb ≠ o.k := by omega
                have C5 := Lib.hid (hC.out.putk n true)
                have K5 := Lib.hid (kp_set (i := n) (u := .bool true) hK.out (q := o.k) (by simp [Rb.F]))
                by_cases e2 : f.kind = 2
                · have t5 : (f.kind == 2) = true := beq_iff_eq.2 e2
                  have C6 := Lib.hid (C5.out.putd true)
                  have K6 := Lib.hid (kp_set (i := 10) (u := .bool true) K5.out (q := o.g) (by simp [Rb.F]))
                  clear e2
                  go_wp2
                  go_ret
                  exact ⟨⟨4, rfl⟩, ⟨true, C6.out⟩, K6.out⟩
                · have t5 : (f.kind == 2) = false := beq_eq_false_iff_ne.2 e2
                  clear e2
                  go_wp2
                  go_ret
                  exact ⟨⟨11, rfl⟩, ⟨dn, C5.out⟩, K5.out⟩
        · have e3 : ¬ f.kind = 2 := fun e => e2 (.inl e)
          have e4 : ¬ f.kind = 3 := fun e => e2 (.inr e)
          have t5 : (f.kind == 2) = false := beq_eq_false_iff_ne.2 e3
          have t6 : (f.kind == 3) = false := beq_eq_false_iff_ne.2 e4
          clear e2 e3 e4
          go_wp2_with fail
          go_loopw [8] (fun i wr => ∃ k : Nat, k ≤ np ∧ i = .int .i64 k ∧ Hid (RcAt wr X o nb np sz dn) ∧ Hid (Kp o.F w wr) ∧ Hid (Blk wr fb 51 #[.int .i64 f.at', .int .i64 f.kind, .slice da f.data.length dc]) ∧ Hid (RwX wr X da f.data)) (fun i _ => np - (intOf i).toNat)
          case atStart => exact ⟨0, by omega, rfl, C3, K3, B3, D3⟩
          case round =>
            obtain ⟨k, hk, rfl, hC, hK, hB, hD⟩ := hrel
            obtain ⟨-, g1, g2, -, -⟩ := hC.out.geo
            clear C3 K3 B3 D3 c1
            by_cases hlt : k < np
            · have kl : (k : Int) < (np : Int) := by omega
              obtain ⟨P, N, I, hP, hN, hI, hPw, hIw, hIN, hN4, hi0, hi1⟩ := page_no hn hlt hnb hnp
              obtain ⟨r3, -, -, -, -⟩ := hC.out.rows
              rw [hN] at r3
              obtain ⟨A3, l3, k3, hp3, -, -⟩ := hC.out.page (i := I) (by rw [hN]; exact hIN)
              have hf3 := (hC.out.froz I).2.1
              clear hP hN hI
              have C4 := Lib.hid (hC.out.putp I BvX.none)
              have K4 := Lib.hid (kp_set (i := I) (u := .slice none 0 0) hK.out (q := o.p) (by simp [Rb.F]))
              have B4 := Lib.hid (hB.out.far (p := ⟨o.p, I, none⟩) (show fb ≠ o.p by omega) (.slice none 0 0))
              have D4 := Lib.hid (hD.out.kp (kp_set (i := I) (u := .slice none 0 0) (Kp.refl o.F wr) (q := o.p) (by simp [Rb.F])) hC.out.inX)
              go_wp2
              go_roundw
              case rel => exact ⟨k + 1, by omega, by go_num, C4, K4, B4, D4⟩
              case measure => simp [intOf]; omega
            · have kl : ¬ (k : Int) < (np : Int) := by omega
              obtain ⟨-, r4, r5, -, -⟩ := hC.out.rows
              obtain ⟨⟨z4, c4⟩, ⟨z5, c5⟩, -, -⟩ := hC.out.row hn
              obtain ⟨-, -, f4, f5, -, -⟩ := hC.out.froz n
              obtain ⟨c10, f10⟩ := hC.out.down
              have c1 : wr.cell? ⟨fb, 1, none⟩ = some (.int .i64 f.kind) := hB.out.cell 1
              obtain ⟨n1, n2, n3, n4, n5, n6, n7, n8, n9, n10, n11, n12, n13, n14, n15⟩ := hC.out.ne
              have hbk : fb ≠ o.k := by omega
              have C5 := Lib.hid (hC.out.putk n false)
              have K5 := Lib.hid (kp_set (i := n) (u := .bool false) hK.out (q := o.k) (by simp [Rb.F]))
              have C6 := Lib.hid (C5.out.putn n 0)
              have K6 := Lib.hid (kp_set (i := n) (u := .int .i64 0) K5.out (q := o.n) (by simp [Rb.F]))
              go_wp2
              go_ret
              exact ⟨⟨0, rfl⟩, ⟨dn, C6.out⟩, K6.out⟩
    · have HE : Hid (RQ w X o nb np sz (.returned (.int .i64 13)) w) := Lib.hid ⟨⟨13, rfl⟩, ⟨dn, H.out⟩, Kp.refl _ _⟩
      go_enter Tryz.func75, Tryz.ntmps75
      go_wp2_with fail
      refine HP.out.mono ?_
      rintro e w' ⟨rfl, rfl⟩
      go_wp2
      go_ret
      exact HE.out
  · have H := Lib.hid h
    generalize placeF nb np dn k 0 = r at hp HP
    have q : (r != 0) = true := by simp [hp]
    clear h hp
    go_enter Tryz.func75, Tryz.ntmps75
    go_wp2_with fail
    refine HP.out.mono ?_
    rintro e w' ⟨rfl, rfl⟩
    go_wp2
    go_ret
    exact ⟨⟨r, rfl⟩, ⟨dn, H.out⟩, Kp.refl _ _⟩

end Go.Proofs.YtjjggmopkfkpaaaGreat
