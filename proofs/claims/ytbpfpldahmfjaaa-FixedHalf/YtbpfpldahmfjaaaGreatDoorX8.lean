import Derived.Test.YtbpfpldahmfjaaaGreatDoorX7
import Derived.Test.YtbpfpldahmfjaaaGreatDoorX2
import Derived.Deep.CutRange
set_option linter.unusedVariables false
set_option linter.unusedSimpArgs false
namespace Go.Proofs.YtbpfpldahmfjaaaGreatDoor.Li
open Go.RowKit Lb
theorem box_named (w : World) (x y z : Value) : ∃ w', w.alloc (Obj.cells #[x, y, z] 37) = w' ∧ Keep w w' ∧ Box w' w.heap.size x y z := ⟨_, rfl, (Keep.refl w).alloc _, Box.new w x y z⟩
theorem Qt.shape {w : World} {x y z : Value} {s : Bool} {n d : Nat} (h : Qt w x y z s n d) : ∃ (t : Bool) (a : Option Addr) (l c : Nat) (b : Option Addr) (m f : Nat), x = .bool t ∧ y = .slice a l c ∧ z = .slice b m f := by
  obtain ⟨an, cn, ln, ad, cd, ld, h1, h2, h3, -⟩ := h
  exact ⟨_, _, _, _, _, _, _, h1, h2, h3⟩
theorem Qt.box {w : World} {x y z : Value} {s : Bool} {n d : Nat} (h : Qt w x y z s n d) {g : Nat} {u0 : Bool} {a1 a2 : Option Addr} {l1 c1 l2 c2 : Nat} (hb : Box w g (.bool u0) (.slice a1 l1 c1) (.slice a2 l2 c2)) (v0 v1 v2 : Value) : Qt (((w.setCell ⟨g, 0, none⟩ v0).setCell ⟨g, 1, none⟩ v1).setCell ⟨g, 2, none⟩ v2) x y z s n d := by
  obtain ⟨an, cn, ln, ad, cd, ld, h1, h2, h3, hA, h4⟩ := h
  exact ⟨an, cn, ln, ad, cd, ld, h1, h2, h3, ⟨hA.hca, hA.hcb, hA.hla, hA.hlb, rd_box hA.hra hb (by simp) (by simp) (by simp) _ _ _, rd_box hA.hrb hb (by simp) (by simp) (by simp) _ _ _, hA.hma, hA.hmb⟩, h4⟩
/-- A variable with a quotient. -/
def QB (w wx : World) (v : Value) (s : Bool) (n d : Nat) : Prop := ∃ B t a l c b m f, v = .pointer (some ⟨B, 0, none⟩) ∧ w.heap.size ≤ B ∧ Box wx B (.bool t) (.slice a l c) (.slice b m f) ∧ Qt wx (.bool t) (.slice a l c) (.slice b m f) s n d ∧ Keep w wx
theorem prod_small {a b : Nat} (ha : a ≤ 9223372036854775808) (hb : b ≤ 9223372036854775808) : a * b ≤ 85070591730234615865843651857942052864 := by
  have := Nat.mul_le_mul ha hb
  simpa using this
theorem RN_one (N : Nat) : RN N 1 = N := by unfold RN; simp
theorem RD_one (N : Nat) : RD N 1 = 1 := by unfold RD; simp
theorem big8 {n : Nat} (h : n ≤ 1000000000000000000000000000000000000000000000000000000000000000) : n < 4294967296 ^ 8 := Nat.lt_of_le_of_lt h (by decide)
theorem two_cells (w : World) : ((w.alloc (Obj.cells #[.int .u32 1] 42)).alloc (Obj.cells #[.int .u32 2] 42)).cell? ⟨w.heap.size, 0, none⟩ = some (.int .u32 1) ∧ ((w.alloc (Obj.cells #[.int .u32 1] 42)).alloc (Obj.cells #[.int .u32 2] 42)).cell? ⟨w.heap.size + 1, 0, none⟩ = some (.int .u32 2) := by
  have h1 : (w.alloc (Obj.cells #[Value.int IntKind.u32 1] 42)).heap[w.heap.size]? = some (Obj.cells #[Value.int IntKind.u32 1] 42 (0, 0)) := heap_alloc_new w _
  have h2 : ((w.alloc (Obj.cells #[Value.int IntKind.u32 1] 42)).alloc (Obj.cells #[Value.int IntKind.u32 2] 42)).heap[(w.alloc (Obj.cells #[Value.int IntKind.u32 1] 42)).heap.size]? = some (Obj.cells #[Value.int IntKind.u32 2] 42 (0, 0)) := heap_alloc_new _ _
  have e : (w.alloc (Obj.cells #[Value.int IntKind.u32 1] 42)).heap.size = w.heap.size + 1 := by simp
  rw [e] at h2
  refine ⟨?_, ?_⟩
  · apply Keep.cell ((Keep.refl _).alloc _)
    rw [cell_of_row _ _ 0 _ 42 (0, 0) h1]; rfl
  · rw [cell_of_row _ _ 0 _ 42 (0, 0) h2]; rfl
theorem RD_pos2 {N D : Nat} (hD : 0 < D) : 0 < RD N D := by
  unfold RD
  rw [if_neg (by omega)]
  exact Nat.div_pos (Nat.le_of_dvd hD (Nat.gcd_dvd_right N D)) (Nat.gcd_pos_of_pos_right N hD)
theorem PN_le2 (a b : Bool) (L R : Nat) : PN a b L R ≤ L + R := by
  unfold PN
  split
  · omega
  · split <;> omega
/-- Divided by a whole number. -/
theorem by_q0 {x1 y1 z1 x2 y2 z2 : Value} {s1 s2 : Bool} {N D : Nat} (w : World) (hA : Qt w x1 y1 z1 s1 N 1) (hB : Qt w x2 y2 z2 s2 D 1) (hN : N ≤ 85070591730234615865843651857942052864) (hD : 0 < D ∧ D ≤ 9223372036854775808) :
    Calls Tryz.prog 15 #[.agg #[x1, y1, z1], .agg #[x2, y2, z2]] w fun e w' => ∃ x y z, e = .returned (.tuple #[.agg #[x, y, z], .int .i64 0]) ∧ Qt w' x y z (RS (s1 != s2) N D) (RN N D) (RD N D) ∧ Keep w w' := by
  have q := By_q w hA hB (big8 (by omega)) (big8 (by omega)) (by omega)
  rw [Nat.mul_one, Nat.one_mul, show RE D = 0 by unfold RE; rw [if_neg (by omega)]] at q
  exact q
theorem top_q {x1 y1 z1 x2 y2 z2 : Value} (w : World) (hA : Qt w x1 y1 z1 false 9223372036854775807 1) (hB : Qt w x2 y2 z2 false 1 2) :
    Calls Tryz.prog 17 #[.agg #[x1, y1, z1], .agg #[x2, y2, z2]] w fun e w' => ∃ x y z, e = .returned (.tuple #[.agg #[x, y, z], .int .i64 0]) ∧ Qt w' x y z false 18446744073709551615 2 ∧ Keep w w' := by
  have q := Plus_q w hA hB (by decide) (by decide)
  rw [show RE (1 * 2) = 0 from rfl, show RS (PG false false (9223372036854775807 * 2) (1 * 1)) (PN false false (9223372036854775807 * 2) (1 * 1)) (1 * 2) = false by decide, show RN (PN false false (9223372036854775807 * 2) (1 * 1)) (1 * 2) = 18446744073709551615 by decide +kernel, show RD (PN false false (9223372036854775807 * 2) (1 * 1)) (1 * 2) = 2 by decide +kernel] at q
  exact q
theorem low_q {x1 y1 z1 x2 y2 z2 : Value} (w : World) (hA : Qt w x1 y1 z1 true 9223372036854775808 1) (hB : Qt w x2 y2 z2 false 1 2) :
    Calls Tryz.prog 18 #[.agg #[x1, y1, z1], .agg #[x2, y2, z2]] w fun e w' => ∃ x y z, e = .returned (.tuple #[.agg #[x, y, z], .int .i64 0]) ∧ Qt w' x y z true 18446744073709551617 2 ∧ Keep w w' := by
  have q := Minus_q w hA hB (by decide) (by decide)
  rw [show RE (1 * 2) = 0 from rfl, show RS (PG true (!false) (9223372036854775808 * 2) (1 * 1)) (PN true (!false) (9223372036854775808 * 2) (1 * 1)) (1 * 2) = true by decide +kernel, show RN (PN true (!false) (9223372036854775808 * 2) (1 * 1)) (1 * 2) = 18446744073709551617 by decide +kernel, show RD (PN true (!false) (9223372036854775808 * 2) (1 * 1)) (1 * 2) = 2 by decide +kernel] at q
  exact q
/-- How far it lies off. -/
theorem away_q {x1 y1 z1 x2 y2 z2 : Value} {s1 s2 : Bool} {n d M : Nat} (w : World) (hA : Qt w x1 y1 z1 s1 n d) (hB : Qt w x2 y2 z2 s2 M 1) (hn : n ≤ 85070591730234615865843651857942052864) (hd : 0 < d ∧ d ≤ 9223372036854775808) (hM : M ≤ 9223372036854775808) :
    Calls Tryz.prog 18 #[.agg #[x1, y1, z1], .agg #[x2, y2, z2]] w fun e w' => ∃ x y z, e = .returned (.tuple #[.agg #[x, y, z], .int .i64 0]) ∧ Qt w' x y z (RS (PG s1 (!s2) n (M * d)) (PN s1 (!s2) n (M * d)) d) (RN (PN s1 (!s2) n (M * d)) d) (RD (PN s1 (!s2) n (M * d)) d) ∧ Keep w w' := by
  have hb := prod_small hM hd.2
  have q := Minus_q w hA hB (big8 (Nat.le_trans (PN_le2 _ _ _ _) (by omega))) (big8 (by omega))
  rw [Nat.mul_one, Nat.mul_one, show RE d = 0 by unfold RE; rw [if_neg (by omega)]] at q
  exact q
theorem whole_c (n : Int) (m : Nat) (s : Bool) (h1 : -9223372036854775808 ≤ n) (h2 : n ≤ 9223372036854775807) (hm : n.natAbs = m) (hs : decide (n < 0) = s) (w : World) :
    Calls Tryz.prog 14 #[.int .i64 n] w fun e w' => ∃ x y z, e = .returned (.agg #[x, y, z]) ∧ Qt w' x y z s m 1 ∧ Keep w w' := by
  have q := Whole_q n w h1 h2
  rw [hm, hs] at q
  exact q
theorem rd_box1 {w : World} {a : Option Addr} {l : List Nat} {g : Nat} {p q r : Value} (h : Rd w a l) (hb : Box w g p q r) (hp : ∀ x, p ≠ .int .u32 x) (hq : ∀ x, q ≠ .int .u32 x) (hr : ∀ x, r ≠ .int .u32 x) (x : Value) : Rd (w.setCell ⟨g, 0, none⟩ x) a l := by
  have ho : Off g a l := by
    intro b o s e hne
    rintro rfl
    obtain ⟨b', o', e', hc⟩ := h 0 (List.length_pos_iff.2 hne)
    rw [e'] at e
    simp only [Option.some.injEq, Addr.mk.injEq] at e
    obtain ⟨rfl, rfl, -⟩ := e
    have h1 := cell_of_row w b' (o' + 0) _ 37 (0, 0) hb
    rw [hc] at h1
    match o', h1 with
    | 0, h1 => simp at h1; exact hp _ h1.symm
    | 1, h1 => simp at h1; exact hq _ h1.symm
    | 2, h1 => simp at h1; exact hr _ h1.symm
    | n + 3, h1 => simp at h1
  exact h.mut ((Mut.refl g w).setCell 0 x) ho
theorem Qt.box1 {w : World} {x y z : Value} {s : Bool} {n d : Nat} (h : Qt w x y z s n d) {g : Nat} {u0 : Bool} {a1 a2 : Option Addr} {l1 c1 l2 c2 : Nat} (hb : Box w g (.bool u0) (.slice a1 l1 c1) (.slice a2 l2 c2)) (v0 : Value) : Qt (w.setCell ⟨g, 0, none⟩ v0) x y z s n d := by
  obtain ⟨an, cn, ln, ad, cd, ld, h1, h2, h3, hA, h4⟩ := h
  exact ⟨an, cn, ln, ad, cd, ld, h1, h2, h3, ⟨hA.hca, hA.hcb, hA.hla, hA.hlb, rd_box1 hA.hra hb (by simp) (by simp) (by simp) _, rd_box1 hA.hrb hb (by simp) (by simp) (by simp) _, hA.hma, hA.hmb⟩, h4⟩
end Go.Proofs.YtbpfpldahmfjaaaGreatDoor.Li
