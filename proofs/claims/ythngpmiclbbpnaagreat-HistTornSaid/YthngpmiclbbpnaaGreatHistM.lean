/-
  Operations of a history and their bytes: what they are, and how they lie in memory. Nothing of one statement alone stands here.
-/
import Derived.Test.YthngpmiclbbpnaaGreatTagNum
import Derived.Test.YthngpmiclbbpnaaGreatBlk
import Derived.Test.YthngpmiclbbpnaaGreatLay
import Derived.Lib.ConvBytes
import Derived.Lib.Hide
import Derived.WalkMore
import Derived.Maps.AppendAt
namespace Go.Proofs.YthngpmiclbbpnaaGreat
open Go.RowKit Crcm Tagm Go.ChangeShapes

/-- a text's bytes -/
def nb (s : ByteArray) : List Int := s.data.toList.map fun b => (b.toNat : Int)
theorem nb_length (s : ByteArray) : (nb s).length = s.size := by unfold nb; simp
theorem nb_U8 (s : ByteArray) : ∀ n ∈ nb s, U8 n := fun n hn => by
  unfold nb at hn
  obtain ⟨b, -, rfl⟩ := List.mem_map.1 hn
  have := b.toNat_lt
  unfold U8; omega
theorem nb_strOf {l : List Int} (h : ∀ n ∈ l, U8 n) : nb (strOfNums l) = l := by
  unfold nb
  rw [strOfNums_data, List.map_map]
  conv => rhs; rw [← List.map_id l]
  refine List.map_congr_left fun n hn => ?_
  have := h n hn
  unfold U8 at this
  simp only [Function.comp, id_eq]
  have e : (UInt8.ofNat n.toNat).toNat = n.toNat := by
    rw [UInt8.toNat_ofNat']; omega
  rw [e]; omega
theorem strOf_nb (s : ByteArray) : strOfNums (nb s) = s := by
  apply ByteArray.ext
  apply Array.toList_inj.1
  rw [strOfNums_data]
  unfold nb
  rw [List.map_map]
  conv => rhs; rw [← List.map_id s.data.toList]
  refine List.map_congr_left fun b _ => ?_
  simp

/-- an operation -/
structure Ho where
  kind : Int
  path : ByteArray
  to : ByteArray
  handle : Int
  n : Int
  off : Int
  b : List Int
instance : Inhabited Ho := ⟨⟨0, ⟨#[]⟩, ⟨#[]⟩, 0, 0, 0, []⟩⟩
/-- one that is right -/
def Rg (o : Ho) : Prop := (1 ≤ o.kind ∧ o.kind ≤ 14) ∧ (o.path.size ≤ 255 ∧ o.to.size ≤ 255 ∧ o.b.length ≤ 1024) ∧ (-2147483648 ≤ o.handle ∧ o.handle ≤ 2147483647) ∧ -2147483648 ≤ o.n ∧ o.n ≤ 2147483647
instance (o : Ho) : Decidable (Rg o) := by unfold Rg; infer_instance
/-- a number as 64 digits -/
def uw (x : Int) : Int := IntKind.u64.wrap x
theorem uw_U64 (x : Int) : U64 (uw x) := by
  unfold uw U64
  rw [IntKind.wrap_u64]
  omega
theorem uw_nat {n : Nat} (h : n < 18446744073709551616) : uw n = n := by
  unfold uw
  rw [IntKind.wrap_u64]
  omega
/-- an operation's bytes -/
def ob (o : Ho) : List Int := le 1 (uw o.kind) ++ (le 1 (uw o.path.size) ++ nb o.path) ++ (le 1 (uw o.to.size) ++ nb o.to) ++ le 4 (uw o.handle) ++ le 4 (uw o.n) ++ le 8 (uw o.off) ++ (le 2 (uw o.b.length) ++ o.b)
def obs : List Ho → List Int
  | [] => []
  | o :: l => ob o ++ obs l
theorem ob_len (o : Ho) : (ob o).length = 21 + o.path.size + o.to.size + o.b.length := by simp [ob, le_length, nb_length]; omega
theorem obs_app (l m : List Ho) : obs (l ++ m) = obs l ++ obs m := by
  induction l with
  | nil => rfl
  | cons o l ih => simp [obs, ih]
theorem obs_take {l : List Ho} {k : Nat} (h : k < l.length) : obs (l.take (k + 1)) = obs (l.take k) ++ ob l[k]! := by
  rw [List.take_succ_eq_append_getElem h, obs_app, getElem!_pos l k h]
  simp [obs]
theorem obs_le (l : List Ho) (k : Nat) : (obs (l.take k)).length ≤ (obs l).length := by
  conv => rhs; rw [← List.take_append_drop k l, obs_app, List.length_append]
  omega
/-- how many operations and bytes there are -/
def szs : List Ho → Nat
  | [] => 0
  | o :: l => (20 + o.path.size + o.to.size + o.b.length) + szs l
theorem obs_szs (l : List Ho) : (obs l).length ≤ 2 * szs l ∧ l.length * 20 ≤ szs l := by
  induction l with
  | nil => exact ⟨Nat.le_refl _, Nat.le_refl _⟩
  | cons o l ih =>
    simp only [obs, szs, List.length_append, ob_len, List.length_cons]
    omega
/-- operations' bytes without the sum -/
def body (l : List Ho) : List Int := [72, 73, 83, 84] ++ le 4 (uw l.length) ++ obs l
theorem body_len (l : List Ho) : (body l).length = 8 + (obs l).length := by simp [body, le_length]; omega
/-- what is written, and which error it is -/
def wE (l : List Ho) : Int := if 4096 < l.length then 2 else if ∀ o ∈ l, Rg o then 0 else 1
def wB (l : List Ho) : List Int := if wE l = 0 then body l ++ le 4 (uw (mo 0 (body l))) else []

/-- bytes that are bytes -/
def Bw (o : Ho) : Prop := ∀ x ∈ o.b, U8 x
theorem ob_U8 {o : Ho} (h : Bw o) : ∀ x ∈ ob o, U8 x := by
  intro x hx
  simp only [ob, List.mem_append] at hx
  rcases hx with (((((hx | hx | hx) | hx | hx) | hx) | hx) | hx) | hx | hx
  · exact le_U8 _ _ x hx
  · exact le_U8 _ _ x hx
  · exact nb_U8 _ x hx
  · exact le_U8 _ _ x hx
  · exact nb_U8 _ x hx
  · exact le_U8 _ _ x hx
  · exact le_U8 _ _ x hx
  · exact le_U8 _ _ x hx
  · exact le_U8 _ _ x hx
  · exact h x hx
theorem obs_U8 {l : List Ho} (h : ∀ o ∈ l, Bw o) : ∀ x ∈ obs l, U8 x := by
  induction l with
  | nil => intro x hx; cases hx
  | cons o l ih =>
    intro x hx
    simp only [obs, List.mem_append] at hx
    rcases hx with hx | hx
    · exact ob_U8 (h o (by simp)) x hx
    · exact ih (fun o ho => h o (by simp [ho])) x hx
theorem body_U8 {l : List Ho} (h : ∀ o ∈ l, Bw o) : ∀ x ∈ body l, U8 x := by
  intro x hx
  simp only [body, List.mem_append, List.mem_cons, List.not_mem_nil, or_false] at hx
  rcases hx with ((rfl | rfl | rfl | rfl) | hx) | hx
  · unfold U8; omega
  · unfold U8; omega
  · unfold U8; omega
  · unfold U8; omega
  · exact le_U8 _ _ x hx
  · exact obs_U8 h x hx

/-- an operation's cells -/
def HoAt (w : World) (b off : Nat) (o : Ho) : Prop :=
  w.cell? ⟨b, off, none⟩ = some (.int .i64 o.kind) ∧ w.cell? ⟨b, off + 1, none⟩ = some (.string o.path) ∧ w.cell? ⟨b, off + 2, none⟩ = some (.string o.to) ∧ w.cell? ⟨b, off + 3, none⟩ = some (.int .i64 o.handle) ∧
  w.cell? ⟨b, off + 4, none⟩ = some (.int .i64 o.n) ∧ w.cell? ⟨b, off + 5, none⟩ = some (.int .i64 o.off) ∧ ∃ A c, w.cell? ⟨b, off + 6, none⟩ = some (.slice A o.b.length c) ∧ o.b.length ≤ c ∧ Rw w A o.b
theorem HoAt.below {w w' : World} {b off : Nat} {o : Ho} (h : HoAt w b off o) (hb : Below w.heap.size w w') : HoAt w' b off o := by
  have hc : ∀ {p : Addr} {v : Value}, w.cell? p = some v → w'.cell? p = some v := fun {p v} g => (hb.cell (block_lt_of_cell g)).trans g
  obtain ⟨h0, h1, h2, h3, h4, h5, A, c, h6, h7, h8⟩ := h
  exact ⟨hc h0, hc h1, hc h2, hc h3, hc h4, hc h5, A, c, hc h6, h7, h8.below hb⟩
/-- a row of operations -/
def HR (w : World) (a : Option Addr) (L : List Ho) : Prop := L = [] ∨ ∃ b off, a = some ⟨b, off, none⟩ ∧ ∀ j, j < L.length → HoAt w b (off + j * 7) L[j]!
theorem HR.below {w w' : World} {a : Option Addr} {L : List Ho} (h : HR w a L) (hb : Below w.heap.size w w') : HR w' a L := by
  rcases h with h | ⟨b, off, rfl, h⟩
  · exact .inl h
  · exact .inr ⟨b, off, rfl, fun j hj => (h j hj).below hb⟩
theorem HR.at {w : World} {a : Option Addr} {L : List Ho} (h : HR w a L) {j : Nat} (hj : j < L.length) : ∃ b off, a = some ⟨b, off, none⟩ ∧ HoAt w b (off + j * 7) L[j]! := by
  rcases h with rfl | ⟨b, off, rfl, h⟩
  · simp at hj
  · exact ⟨b, off, rfl, h j hj⟩

/-- a text made into bytes -/
theorem textW {w : World} (s : ByteArray) (hs : s.size ≤ maxLen) : Below w.heap.size w (Lib.bytesWorld w 5 s) ∧ Rw (Lib.bytesWorld w 5 s) (some ⟨w.heap.size, 0, none⟩) (nb s) := by
  refine ⟨⟨?_, ?_, ?_, ?_, fun k hk => Lib.bytesWorld_at_old w _ s k hk⟩, nb_U8 s, by rw [nb_length]; exact hs, .inr ⟨w.heap.size, 0, rfl, fun i hi => ?_⟩⟩
  · simp [Lib.bytesWorld, World.freeze, World.alloc, World.drew, -World.alloc_eq, -World.drew_eq]
  · simp [Lib.bytesWorld, World.freeze, World.alloc, World.drew, -World.alloc_eq, -World.drew_eq]
  · simp [Lib.bytesWorld, World.freeze, World.alloc, World.drew, -World.alloc_eq, -World.drew_eq]
  · rw [Lib.bytesWorld_size]; omega
  · rw [nb_length] at hi
    rw [Nat.zero_add, Lib.bytesWorld_cell w _ s i hi]
    congr 2
    unfold nb
    simp [List.getD_eq_getElem?_getD, hi]

end Go.Proofs.YthngpmiclbbpnaaGreat
