import Derived.Test.YtpdjpjkieafnbaaGreatDoorSQ4
import Derived.Test.YtpdjpjkieafnbaaGreatDoorDG2
import Derived.Test.YtpdjpjkieafnbaaGreatDoorNI2
set_option linter.unusedVariables false
set_option linter.unusedSimpArgs false
namespace Go.Proofs.YtpdjpjkieafnbaaGreatDoor.Li
open Go.RowKit Lb Nr
/-- A format's box. -/
def B3 (w : World) (g : Nat) (a b c : Int) : Prop := w.heap[g]? = some (.cells #[.int .i64 a, .int .i64 b, .int .i64 c] 32 (0, 0))
theorem B3.keep {w w' : World} {g : Nat} {a b c : Int} (h : B3 w g a b c) (k : Keep w w') : B3 w' g a b c := by
  unfold B3; rw [k.block g (Array.getElem?_eq_some_iff.1 h).1]; exact h
theorem B3.three {w : World} {g : Nat} {a b c : Int} (h : B3 w g a b c) : w.cell? ⟨g, 0, none⟩ = some (.int .i64 a) ∧ w.cell? ⟨g, 1, none⟩ = some (.int .i64 b) ∧ w.cell? ⟨g, 2, none⟩ = some (.int .i64 c) :=
  ⟨cell_of_row w g 0 _ 32 (0, 0) h, cell_of_row w g 1 _ 32 (0, 0) h, cell_of_row w g 2 _ 32 (0, 0) h⟩
/-- A number's box. -/
def B5 (w : World) (g : Nat) (v0 v1 v2 v3 v4 : Value) : Prop := w.heap[g]? = some (.cells #[v0, v1, v2, v3, v4] 28 (0, 0))
theorem B5.keep {w w' : World} {g : Nat} {v0 v1 v2 v3 v4 : Value} (h : B5 w g v0 v1 v2 v3 v4) (k : Keep w w') : B5 w' g v0 v1 v2 v3 v4 := by
  unfold B5; rw [k.block g (Array.getElem?_eq_some_iff.1 h).1]; exact h
theorem B5.lt {w : World} {g : Nat} {v0 v1 v2 v3 v4 : Value} (h : B5 w g v0 v1 v2 v3 v4) : g < w.heap.size := (Array.getElem?_eq_some_iff.1 h).1
theorem B5.five {w : World} {g : Nat} {v0 v1 v2 v3 v4 : Value} (h : B5 w g v0 v1 v2 v3 v4) : w.cell? ⟨g, 0, none⟩ = some v0 ∧ w.cell? ⟨g, 1, none⟩ = some v1 ∧ w.cell? ⟨g, 2, none⟩ = some v2 ∧ w.cell? ⟨g, 3, none⟩ = some v3 ∧ w.cell? ⟨g, 4, none⟩ = some v4 :=
  ⟨cell_of_row w g 0 _ 28 (0, 0) h, cell_of_row w g 1 _ 28 (0, 0) h, cell_of_row w g 2 _ 28 (0, 0) h, cell_of_row w g 3 _ 28 (0, 0) h, cell_of_row w g 4 _ 28 (0, 0) h⟩
theorem B5.frs {w : World} {g : Nat} {v0 v1 v2 v3 v4 : Value} (h : B5 w g v0 v1 v2 v3 v4) : w.frozen? ⟨g, 0, none⟩ = false ∧ w.frozen? ⟨g, 1, none⟩ = false ∧ w.frozen? ⟨g, 2, none⟩ = false ∧ w.frozen? ⟨g, 3, none⟩ = false ∧ w.frozen? ⟨g, 4, none⟩ = false :=
  ⟨frozen_of_row w g 0 _ 28 h, frozen_of_row w g 1 _ 28 h, frozen_of_row w g 2 _ 28 h, frozen_of_row w g 3 _ 28 h, frozen_of_row w g 4 _ 28 h⟩
theorem B5.all {w : World} {g : Nat} {v0 v1 v2 v3 v4 : Value} (h : B5 w g v0 v1 v2 v3 v4) (x0 x1 x2 x3 x4 : Value) : B5 (((((w.setCell ⟨g, 0, none⟩ x0).setCell ⟨g, 1, none⟩ x1).setCell ⟨g, 2, none⟩ x2).setCell ⟨g, 3, none⟩ x3).setCell ⟨g, 4, none⟩ x4) g x0 x1 x2 x3 x4 := by
  have h0 := heap_setCell_same w g 0 _ 28 x0 h
  have h1 := heap_setCell_same _ g 1 _ 28 x1 h0
  have h2 := heap_setCell_same _ g 2 _ 28 x2 h1
  have h3 := heap_setCell_same _ g 3 _ 28 x3 h2
  have h4 := heap_setCell_same _ g 4 _ 28 x4 h3
  unfold B5
  rw [h4]
  simp
theorem Keep.all5 {w0 w : World} {g : Nat} (k : Keep w0 w) (hg : w0.heap.size ≤ g) (x0 x1 x2 x3 x4 : Value) : Keep w0 (((((w.setCell ⟨g, 0, none⟩ x0).setCell ⟨g, 1, none⟩ x1).setCell ⟨g, 2, none⟩ x2).setCell ⟨g, 3, none⟩ x3).setCell ⟨g, 4, none⟩ x4) :=
  ((((k.setCell hg x0).setCell hg x1).setCell hg x2).setCell hg x3).setCell hg x4
theorem results_box5 {fn : Func} {t u q : Tmp} (h : fn.results = #[.cell t 28, .tmp u, .tmp q]) (tmps : Array Value) (w : World) (g : Nat) (v0 v1 v2 v3 v4 : Value) (hp : tmps.getD t undef = .pointer (some ⟨g, 0, none⟩)) (hh : B5 w g v0 v1 v2 v3 v4) :
    (results fn tmps).run Tryz.prog w = .ok (.tuple #[.agg #[v0, v1, v2, v3, v4], tmps.getD u undef, tmps.getD q undef]) w := by
  obtain ⟨c0, c1, c2, c3, c4⟩ := hh.five
  have hp' : (tmps[t]?).getD undef = .pointer (some ⟨g, 0, none⟩) := by simpa using hp
  simp [results, h, hp, hp', go_sem, c0, c1, c2, c3, c4]
/-- A number of the reference, whatever it is. -/
def numA (ng inf nan : Bool) (M : Nat) (E : Int) : Value := .agg #[.bool ng, .bool inf, .bool nan, .int .u64 (M : Nat), .int .i64 E]
/-- A power as the reference reckons it. -/
def pcN (pn : Bool) (ds : List UInt8) : Int := if pn then -((min (nat ds) 100000 : Nat) : Int) else ((min (nat ds) 100000 : Nat) : Int)
/-- What the reference says of digits and a power. -/
def RNq (Q : Nat → Nat → Bool → Nat → Int → Prop) (lim : Int) (N : Nat) (d : Int) (A B : Nat) (inf : Bool) (M : Nat) (E : Int) : Prop :=
  (N = 0 ∧ inf = false ∧ M = 0 ∧ E = 0) ∨ (0 < N ∧ ((lim < d ∧ inf = true ∧ M = 0 ∧ E = 0) ∨ (d < -lim ∧ inf = false ∧ M = 0 ∧ E = 0) ∨ (-lim ≤ d ∧ d ≤ lim ∧ Q A B inf M E)))
/-- The reference's nearest, of whatever format. -/
def NearOk (fa fb fc : Int) (Q : Nat → Nat → Bool → Nat → Int → Prop) : Prop :=
  ∀ v1 v2 N D wx, Nv wx v1 N → Nv wx v2 D → N < 4294967296 ^ 1000 → D < 4294967296 ^ 1000 → 0 < N → 0 < D → Calls Tryz.prog 54 #[v1, v2, .agg #[.int .i64 fa, .int .i64 fb, .int .i64 fc]] wx fun e w' => ∃ inf M E, e = .returned (numA false inf false M E) ∧ Q N D inf M E ∧ Keep wx w'
/-- A value by its digits. -/
def bn (b : Nat) (l : List UInt8) : Nat := l.foldl (fun n c => b * n + hv c) 0
theorem bn_step (b : Nat) (l : List UInt8) (i : Nat) (h : i < l.length) : bn b (l.take (i + 1)) = b * bn b (l.take i) + hv (l.getD i 0) := by
  unfold bn
  have e : l.take (i + 1) = l.take i ++ [l.getD i 0] := by
    rw [List.take_add_one]
    simp [List.getD, h]
  rw [e, List.foldl_append]
  rfl
theorem hv_dv {c : UInt8} (h : isD c = true) : hv c = dv c := by
  unfold isD at h
  have h2 := of_decide_eq_true h
  unfold hv dv dgO
  rw [if_pos h2]
  omega
theorem bn_dec {l : List UInt8} (h : allD l) : bn 10 l = nat l := by
  unfold bn nat
  generalize 0 = n
  induction l generalizing n with
  | nil => rfl
  | cons a t ih =>
    rw [List.foldl_cons, List.foldl_cons, hv_dv (h a (List.mem_cons_self ..))]
    exact ih (fun b hb => h b (List.mem_cons_of_mem _ hb)) _
theorem bn_hex (l : List UInt8) : bn 16 l = hnat l := by
  unfold bn hnat
  congr 1
  funext n c
  omega
theorem hv_lt (c : UInt8) : hv c ≤ 15 := by
  have := dgO_lt c.toNat
  unfold hv
  omega
theorem bn_lt (b : Nat) (hb : b ≤ 16) (l : List UInt8) : bn b l < 16 ^ l.length := by
  have key : ∀ (l : List UInt8) (n : Nat), l.foldl (fun n c => b * n + hv c) n < (n + 1) * 16 ^ l.length := by
    intro l
    induction l with
    | nil => intro n; simp
    | cons a t ih =>
      intro n
      rw [List.foldl_cons]
      have h1 := ih (b * n + hv a)
      have h2 := hv_lt a
      have h3 : b * n ≤ 16 * n := Nat.mul_le_mul_right n hb
      refine Nat.lt_of_lt_of_le h1 ?_
      rw [List.length_cons, Nat.pow_succ, show (n + 1) * (16 ^ t.length * 16) = ((n + 1) * 16) * 16 ^ t.length by rw [Nat.mul_comm (16 ^ t.length) 16, Nat.mul_assoc]]
      exact Nat.mul_le_mul_right _ (by omega)
  have := key l 0
  simpa [bn] using this
theorem pow16_gen (n k : Nat) (h : n ≤ 8 * k) : 16 ^ n ≤ 4294967296 ^ k := by
  rw [show (4294967296 : Nat) = 16 ^ 8 by decide, ← Nat.pow_mul]
  exact Nat.pow_le_pow_right (by decide) h
theorem pow16_lim (n : Nat) (h : n ≤ 4096) : 16 ^ n ≤ 4294967296 ^ 512 := pow16_gen n 512 (by omega)
/-- The power's text says the power. -/
theorem pw_sign {s : List UInt8} (h : cOk s = true) : tk (cPw s) [45] 0 = cNP s ∧ min (pwF (cPw s)) 100000 = min (nat (cDP s)) 100000 ∧ (cPw s).length ≤ s.length := by
  have hg : cGo s = true := by unfold cOk at h; exact (Bool.and_eq_true_iff.1 h).1
  obtain ⟨a1, a2, a3, a4⟩ := way_go hg
  have hD := cDP_d s
  rw [a2] at hD
  rw [a1, a2]
  unfold cPw
  generalize cK4 s = k at *
  generalize cHx s = hx at *
  cases hE : cpE hx s k with
  | false =>
    have e1 : cpN hx s k = false := by unfold cpN; rw [hE]; rfl
    have e2 : cpD hx s k = [] := by unfold cpD; rw [hE]; rfl
    rw [e1, e2, if_neg (by simp)]
    exact ⟨rfl, rfl, by simp⟩
  | true =>
    have hl := cpJ_le hE
    have hle : (cpD hx s k).length + cpJ s k ≤ s.length := by
      unfold cpD
      rw [hE, if_pos rfl]
      have := (tw_cut isD s (cpJ s k)).2 hl
      omega
    have e1 : cpN hx s k = tk s [45] (k + 1) := by unfold cpN; rw [hE]; rfl
    rw [if_pos rfl, e1]
    cases hS : cpS s k with
    | true =>
      have hk := of_decide_eq_true hS
      have eJ : cpJ s k = k + 2 := by unfold cpJ; rw [hS]; rfl
      rw [if_pos rfl]
      have hc : isD (s.getD (k + 1) 0) = false := by
        have q := hk.2
        simp at q
        rcases q with q | q
        · rw [List.getD_eq_getElem?_getD, q]; decide
        · rw [List.getD_eq_getElem?_getD, q]; decide
      refine ⟨?_, ?_, ?_⟩
      · rw [tkx_at hk.1, tkx_at (s := [s.getD (k + 1) 0] ++ cpD hx s k) (k := 0) (by simp)]
        rfl
      · rw [List.singleton_append, pwF_sign hc]
        exact pwF_digits hD
      · rw [List.length_append, List.length_singleton]
        omega
    | false =>
      have eJ : cpJ s k = k + 1 := by unfold cpJ; rw [hS]; rfl
      rw [if_neg (by simp), List.nil_append]
      refine ⟨?_, pwF_digits hD, by omega⟩
      have e2 : tk s [45] (k + 1) = false := by
        apply decide_eq_false
        rintro ⟨q1, q2⟩
        have := of_decide_eq_false hS
        apply this
        refine ⟨q1, ?_⟩
        simp at q2 ⊢
        exact .inr q2
      rw [e2]
      apply decide_eq_false
      rintro ⟨q1, q2⟩
      have h3 : isD ((cpD hx s k).getD 0 0) = true := by
        apply hD
        rw [show (cpD hx s k).getD 0 0 = (cpD hx s k)[0] by simp [List.getD, q1]]
        exact List.getElem_mem _
      rw [show (cpD hx s k).getD 0 0 = 45 by simpa using q2] at h3
      exact absurd h3 (by decide)
end Go.Proofs.YtpdjpjkieafnbaaGreatDoor.Li
set_option linter.unusedVariables false
set_option linter.unusedSimpArgs false
namespace Go.Proofs.YtpdjpjkieafnbaaGreatDoor.Li
open Go.RowKit Lb Nr
set_option maxRecDepth 100000 in
set_option maxHeartbeats 400000 in
theorem rRead_long (fa fb fc : Int) (s : List UInt8) (w : World) (hs : 4096 < s.length) :
    Calls Tryz.prog 13 #[.string ⟨s.toArray⟩, .agg #[.int .i64 fa, .int .i64 fb, .int .i64 fc]] w fun r w' => r = .returned (.tuple #[numA false false false 0 0, .int .i64 4, .int .i64 0]) ∧ Keep w w' := by
  have hsz : (ByteArray.mk s.toArray).size = s.length := sz_mk s
  have e0 : decide ((4096 : Int) < (s.length : Int)) = true := decide_eq_true (by omega)
  go_enter Tryz.func13, Tryz.ntmps13
  go_wp2_with fail
  have R : B5 ((w.alloc (Obj.cells #[.int .i64 fa, .int .i64 fb, .int .i64 fc] 32)).alloc (Obj.cells #[.bool false, .bool false, .bool false, .int .u64 0, .int .i64 0] 28)) (w.heap.size + 1) (.bool false) (.bool false) (.bool false) (.int .u64 0) (.int .i64 0) := by
    have a := heap_alloc_new (w.alloc (Obj.cells #[.int .i64 fa, .int .i64 fb, .int .i64 fc] 32)) (Obj.cells #[.bool false, .bool false, .bool false, .int .u64 0, .int .i64 0] 28)
    have e : (w.alloc (Obj.cells #[.int .i64 fa, .int .i64 fb, .int .i64 fc] 32)).heap.size = w.heap.size + 1 := by simp
    rw [e] at a
    exact a
  exact bodyPost_ret (results_box5 rfl _ _ (w.heap.size + 1) _ _ _ _ _ rfl R) rfl ⟨rfl, ((Keep.refl w).alloc _).alloc _⟩
set_option maxRecDepth 100000 in
set_option maxHeartbeats 400000 in
/-- A text that is no number. -/
theorem rRead_bad (fa fb fc : Int) (s : List UInt8) (w : World) (hs : s.length ≤ 4096) (hok : cOk s = false) (n1 : s ≠ [110, 97, 110]) (n2 : s ≠ [105, 110, 102]) (n3 : s ≠ [45, 105, 110, 102]) :
    Calls Tryz.prog 13 #[.string ⟨s.toArray⟩, .agg #[.int .i64 fa, .int .i64 fb, .int .i64 fc]] w fun r w' => r = .returned (.tuple #[numA false false false 0 0, .int .i64 20, .int .i64 (fltAt s : Nat)]) ∧ Keep w w' := by
  obtain ⟨a, ha⟩ : ∃ a, fltAt s = a := ⟨_, rfl⟩
  rw [ha]
  have hS := fun wx => Split_any s wx hs
  have hsz : (ByteArray.mk s.toArray).size = s.length := sz_mk s
  have e0 : decide ((4096 : Int) < (s.length : Int)) = false := decide_eq_false (by omega)
  obtain ⟨w1, hw1, K1, F1, R1⟩ : ∃ w1, (w.alloc (Obj.cells #[.int .i64 fa, .int .i64 fb, .int .i64 fc] 32)).alloc (Obj.cells #[.bool false, .bool false, .bool false, .int .u64 0, .int .i64 0] 28) = w1 ∧ Keep w w1 ∧ B3 w1 w.heap.size fa fb fc ∧ B5 w1 (w.heap.size + 1) (.bool false) (.bool false) (.bool false) (.int .u64 0) (.int .i64 0) := by
    refine ⟨_, rfl, ((Keep.refl w).alloc _).alloc _, ?_, ?_⟩
    · have a : B3 (w.alloc (Obj.cells #[.int .i64 fa, .int .i64 fb, .int .i64 fc] 32)) w.heap.size fa fb fc := heap_alloc_new w _
      exact a.keep ((Keep.refl _).alloc _)
    · have a := heap_alloc_new (w.alloc (Obj.cells #[.int .i64 fa, .int .i64 fb, .int .i64 fc] 32)) (Obj.cells #[.bool false, .bool false, .bool false, .int .u64 0, .int .i64 0] 28)
      have e : (w.alloc (Obj.cells #[.int .i64 fa, .int .i64 fb, .int .i64 fc] 32)).heap.size = w.heap.size + 1 := by simp
      rw [e] at a
      exact a
  go_enter Tryz.func13, Tryz.ntmps13
  go_wp2_with fail
  refine (hS _).mono ?_
  clear hS
  rintro e w2 ⟨⟨T, V, rfl, hA⟩, k2⟩
  obtain ⟨x0, x1, x2, x3, x4, x5, l1, l2, l3, hT, hV⟩ : ∃ x0 x1 x2 x3 x4 x5 l1 l2 l3, T = nmT x0 x1 x2 x3 x4 x5 l1 l2 l3 ∧ V = (fltAt s : Nat) := by
    rcases hA with ⟨⟨x0, x1, x2, x3, x4, x5, l1, l2, l3, q⟩, hV, -⟩ | ⟨q, -⟩ | ⟨q, -⟩ | ⟨q, -⟩ | ⟨q, -⟩
    · exact ⟨x0, x1, x2, x3, x4, x5, l1, l2, l3, q, hV⟩
    · exact absurd q n1
    · exact absurd q n2
    · exact absurd q n3
    · rw [hok] at q; cases q
  unfold nmT at hT
  subst hT
  rw [ha] at hV
  subst hV
  clear hA n1 n2 n3 hok ha
  have hge : decide ((0 : Int) ≤ (a : Int)) = true := decide_eq_true (by omega)
  obtain ⟨w3, hw3⟩ : ∃ w3, w2.alloc (.cells #[.bool x0, .bool x1, .bool x2, .int .u64 0, .int .i64 0, .bool x3, .bool x4, .bool x5, .string ⟨l1.toArray⟩, .string ⟨l2.toArray⟩, .string ⟨l3.toArray⟩] 89) = w3 := ⟨_, rfl⟩
  have k23 : Keep w2 w3 := by rw [← hw3]; exact (Keep.refl w2).alloc _
  have T3 : Bk w3 w2.heap.size #[.bool x0, .bool x1, .bool x2, .int .u64 0, .int .i64 0, .bool x3, .bool x4, .bool x5, .string ⟨l1.toArray⟩, .string ⟨l2.toArray⟩, .string ⟨l3.toArray⟩] := by rw [← hw3]; exact Bk.new w2 _
  have HT3 : Hid (Bk w3 w2.heap.size #[.bool x0, .bool x1, .bool x2, .int .u64 0, .int .i64 0, .bool x3, .bool x4, .bool x5, .string ⟨l1.toArray⟩, .string ⟨l2.toArray⟩, .string ⟨l3.toArray⟩]) := T3
  have R3 := (R1.keep k2).keep k23
  have HR3 : Hid (B5 w3 (w.heap.size + 1) (.bool false) (.bool false) (.bool false) (.int .u64 0) (.int .i64 0)) := R3
  have HF3 : Hid (B3 w3 w.heap.size fa fb fc) := (F1.keep k2).keep k23
  have HK3 : Hid (Keep w w3) := (K1.trans k2).trans k23
  obtain ⟨c0, c1, c2, c3, c4, c5, c6, c7, c8, c9, c10⟩ := T3.eleven
  obtain ⟨f0, f1, f2, f3, f4⟩ := R3.frs
  obtain ⟨r0, r1, r2, r3, r4⟩ := R3.five
  clear R3 T3 k23 k2 K1 F1 R1
  go_wp2_with fail
  exact bodyPost_ret (results_box5 rfl _ _ (w.heap.size + 1) _ _ _ _ _ rfl (HR3.out.all _ _ _ _ _)) rfl ⟨rfl, HK3.out.all5 (Nat.le_succ _) _ _ _ _ _⟩
set_option maxRecDepth 100000 in
set_option maxHeartbeats 400000 in
theorem rRead_nan (fa fb fc : Int) (s : List UInt8) (w : World) (h : s = [110, 97, 110]) :
    Calls Tryz.prog 13 #[.string ⟨s.toArray⟩, .agg #[.int .i64 fa, .int .i64 fb, .int .i64 fc]] w fun r w' => r = .returned (.tuple #[numA false false true 0 0, .int .i64 0, .int .i64 0]) ∧ Keep w w' := by
  have hs : s.length ≤ 4096 := by rw [h]; simp
  have hok : cOk s = false := by rw [h]; exact (wd_none wd_words.1).2
  have Hh : Hid (s = [110, 97, 110]) := h
  clear h
  have hS := fun wx => Split_any s wx hs
  have hsz : (ByteArray.mk s.toArray).size = s.length := sz_mk s
  have e0 : decide ((4096 : Int) < (s.length : Int)) = false := decide_eq_false (by omega)
  obtain ⟨w1, hw1, K1, F1, R1⟩ : ∃ w1, (w.alloc (Obj.cells #[.int .i64 fa, .int .i64 fb, .int .i64 fc] 32)).alloc (Obj.cells #[.bool false, .bool false, .bool false, .int .u64 0, .int .i64 0] 28) = w1 ∧ Keep w w1 ∧ B3 w1 w.heap.size fa fb fc ∧ B5 w1 (w.heap.size + 1) (.bool false) (.bool false) (.bool false) (.int .u64 0) (.int .i64 0) := by
    refine ⟨_, rfl, ((Keep.refl w).alloc _).alloc _, ?_, ?_⟩
    · have a : B3 (w.alloc (Obj.cells #[.int .i64 fa, .int .i64 fb, .int .i64 fc] 32)) w.heap.size fa fb fc := heap_alloc_new w _
      exact a.keep ((Keep.refl _).alloc _)
    · have a := heap_alloc_new (w.alloc (Obj.cells #[.int .i64 fa, .int .i64 fb, .int .i64 fc] 32)) (Obj.cells #[.bool false, .bool false, .bool false, .int .u64 0, .int .i64 0] 28)
      have e : (w.alloc (Obj.cells #[.int .i64 fa, .int .i64 fb, .int .i64 fc] 32)).heap.size = w.heap.size + 1 := by simp
      rw [e] at a
      exact a
  go_enter Tryz.func13, Tryz.ntmps13
  go_wp2_with fail
  refine (hS _).mono ?_
  clear hS
  rintro e w2 ⟨⟨T, V, rfl, hA⟩, k2⟩
  obtain ⟨hT, hV⟩ : T = nmT false false true true false false [] [] [] ∧ V = -1 := by
    rcases hA with ⟨-, -, -, a1, a2, a3⟩ | ⟨q, a, b⟩ | ⟨q, a, b⟩ | ⟨q, a, b⟩ | ⟨q, -⟩
    · exact absurd Hh.out a1
    · exact ⟨b, a⟩
    · exact absurd (Hh.out.symm.trans q) (by decide)
    · exact absurd (Hh.out.symm.trans q) (by decide)
    · rw [hok] at q; cases q
  unfold nmT at hT
  subst hT
  subst hV
  clear hA hok
  have HR2 : Hid (B5 w2 (w.heap.size + 1) (.bool false) (.bool false) (.bool false) (.int .u64 0) (.int .i64 0)) := R1.keep k2
  have HK2 : Hid (Keep w w2) := K1.trans k2
  have hlt2 : w.heap.size + 1 < w2.heap.size := (R1.keep k2).lt
  obtain ⟨i0, i1, i2, i3, i4⟩ := (R1.keep k2).frs
  obtain ⟨j0, j1, j2, j3, j4⟩ := (R1.keep k2).five
  clear k2 K1 F1 R1
  go_wp2_with fail
  exact bodyPost_ret (results_box5 rfl _ _ (w.heap.size + 1) _ _ _ _ _ rfl ((HR2.out.all _ _ _ _ _).keep ((Keep.refl _).alloc _))) rfl ⟨rfl, (HK2.out.all5 (Nat.le_succ _) _ _ _ _ _).alloc _⟩
set_option maxRecDepth 100000 in
set_option maxHeartbeats 400000 in
theorem rRead_inf (fa fb fc : Int) (s : List UInt8) (w : World) (h : s = [105, 110, 102]) :
    Calls Tryz.prog 13 #[.string ⟨s.toArray⟩, .agg #[.int .i64 fa, .int .i64 fb, .int .i64 fc]] w fun r w' => r = .returned (.tuple #[numA false true false 0 0, .int .i64 0, .int .i64 0]) ∧ Keep w w' := by
  have hs : s.length ≤ 4096 := by rw [h]; simp
  have hok : cOk s = false := by rw [h]; exact (wd_none wd_words.2.1).2
  have Hh : Hid (s = [105, 110, 102]) := h
  clear h
  have hS := fun wx => Split_any s wx hs
  have hsz : (ByteArray.mk s.toArray).size = s.length := sz_mk s
  have e0 : decide ((4096 : Int) < (s.length : Int)) = false := decide_eq_false (by omega)
  obtain ⟨w1, hw1, K1, F1, R1⟩ : ∃ w1, (w.alloc (Obj.cells #[.int .i64 fa, .int .i64 fb, .int .i64 fc] 32)).alloc (Obj.cells #[.bool false, .bool false, .bool false, .int .u64 0, .int .i64 0] 28) = w1 ∧ Keep w w1 ∧ B3 w1 w.heap.size fa fb fc ∧ B5 w1 (w.heap.size + 1) (.bool false) (.bool false) (.bool false) (.int .u64 0) (.int .i64 0) := by
    refine ⟨_, rfl, ((Keep.refl w).alloc _).alloc _, ?_, ?_⟩
    · have a : B3 (w.alloc (Obj.cells #[.int .i64 fa, .int .i64 fb, .int .i64 fc] 32)) w.heap.size fa fb fc := heap_alloc_new w _
      exact a.keep ((Keep.refl _).alloc _)
    · have a := heap_alloc_new (w.alloc (Obj.cells #[.int .i64 fa, .int .i64 fb, .int .i64 fc] 32)) (Obj.cells #[.bool false, .bool false, .bool false, .int .u64 0, .int .i64 0] 28)
      have e : (w.alloc (Obj.cells #[.int .i64 fa, .int .i64 fb, .int .i64 fc] 32)).heap.size = w.heap.size + 1 := by simp
      rw [e] at a
      exact a
  go_enter Tryz.func13, Tryz.ntmps13
  go_wp2_with fail
  refine (hS _).mono ?_
  clear hS
  rintro e w2 ⟨⟨T, V, rfl, hA⟩, k2⟩
  obtain ⟨hT, hV⟩ : T = nmT false true false true false false [] [] [] ∧ V = -1 := by
    rcases hA with ⟨-, -, -, a1, a2, a3⟩ | ⟨q, a, b⟩ | ⟨q, a, b⟩ | ⟨q, a, b⟩ | ⟨q, -⟩
    · exact absurd Hh.out a2
    · exact absurd (Hh.out.symm.trans q) (by decide)
    · exact ⟨b, a⟩
    · exact absurd (Hh.out.symm.trans q) (by decide)
    · rw [hok] at q; cases q
  unfold nmT at hT
  subst hT
  subst hV
  clear hA hok
  have HR2 : Hid (B5 w2 (w.heap.size + 1) (.bool false) (.bool false) (.bool false) (.int .u64 0) (.int .i64 0)) := R1.keep k2
  have HK2 : Hid (Keep w w2) := K1.trans k2
  have hlt2 : w.heap.size + 1 < w2.heap.size := (R1.keep k2).lt
  obtain ⟨i0, i1, i2, i3, i4⟩ := (R1.keep k2).frs
  obtain ⟨j0, j1, j2, j3, j4⟩ := (R1.keep k2).five
  clear k2 K1 F1 R1
  go_wp2_with fail
  exact bodyPost_ret (results_box5 rfl _ _ (w.heap.size + 1) _ _ _ _ _ rfl ((HR2.out.all _ _ _ _ _).keep ((Keep.refl _).alloc _))) rfl ⟨rfl, (HK2.out.all5 (Nat.le_succ _) _ _ _ _ _).alloc _⟩
set_option maxRecDepth 100000 in
set_option maxHeartbeats 400000 in
theorem rRead_ninf (fa fb fc : Int) (s : List UInt8) (w : World) (h : s = [45, 105, 110, 102]) :
    Calls Tryz.prog 13 #[.string ⟨s.toArray⟩, .agg #[.int .i64 fa, .int .i64 fb, .int .i64 fc]] w fun r w' => r = .returned (.tuple #[numA true true false 0 0, .int .i64 0, .int .i64 0]) ∧ Keep w w' := by
  have hs : s.length ≤ 4096 := by rw [h]; simp
  have hok : cOk s = false := by rw [h]; exact (wd_none wd_words.2.2).2
  have Hh : Hid (s = [45, 105, 110, 102]) := h
  clear h
  have hS := fun wx => Split_any s wx hs
  have hsz : (ByteArray.mk s.toArray).size = s.length := sz_mk s
  have e0 : decide ((4096 : Int) < (s.length : Int)) = false := decide_eq_false (by omega)
  obtain ⟨w1, hw1, K1, F1, R1⟩ : ∃ w1, (w.alloc (Obj.cells #[.int .i64 fa, .int .i64 fb, .int .i64 fc] 32)).alloc (Obj.cells #[.bool false, .bool false, .bool false, .int .u64 0, .int .i64 0] 28) = w1 ∧ Keep w w1 ∧ B3 w1 w.heap.size fa fb fc ∧ B5 w1 (w.heap.size + 1) (.bool false) (.bool false) (.bool false) (.int .u64 0) (.int .i64 0) := by
    refine ⟨_, rfl, ((Keep.refl w).alloc _).alloc _, ?_, ?_⟩
    · have a : B3 (w.alloc (Obj.cells #[.int .i64 fa, .int .i64 fb, .int .i64 fc] 32)) w.heap.size fa fb fc := heap_alloc_new w _
      exact a.keep ((Keep.refl _).alloc _)
    · have a := heap_alloc_new (w.alloc (Obj.cells #[.int .i64 fa, .int .i64 fb, .int .i64 fc] 32)) (Obj.cells #[.bool false, .bool false, .bool false, .int .u64 0, .int .i64 0] 28)
      have e : (w.alloc (Obj.cells #[.int .i64 fa, .int .i64 fb, .int .i64 fc] 32)).heap.size = w.heap.size + 1 := by simp
      rw [e] at a
      exact a
  go_enter Tryz.func13, Tryz.ntmps13
  go_wp2_with fail
  refine (hS _).mono ?_
  clear hS
  rintro e w2 ⟨⟨T, V, rfl, hA⟩, k2⟩
  obtain ⟨hT, hV⟩ : T = nmT true true false true true false [] [] [] ∧ V = -1 := by
    rcases hA with ⟨-, -, -, a1, a2, a3⟩ | ⟨q, a, b⟩ | ⟨q, a, b⟩ | ⟨q, a, b⟩ | ⟨q, -⟩
    · exact absurd Hh.out a3
    · exact absurd (Hh.out.symm.trans q) (by decide)
    · exact absurd (Hh.out.symm.trans q) (by decide)
    · exact ⟨b, a⟩
    · rw [hok] at q; cases q
  unfold nmT at hT
  subst hT
  subst hV
  clear hA hok
  have HR2 : Hid (B5 w2 (w.heap.size + 1) (.bool false) (.bool false) (.bool false) (.int .u64 0) (.int .i64 0)) := R1.keep k2
  have HK2 : Hid (Keep w w2) := K1.trans k2
  have hlt2 : w.heap.size + 1 < w2.heap.size := (R1.keep k2).lt
  obtain ⟨i0, i1, i2, i3, i4⟩ := (R1.keep k2).frs
  obtain ⟨j0, j1, j2, j3, j4⟩ := (R1.keep k2).five
  clear k2 K1 F1 R1
  go_wp2_with fail
  exact bodyPost_ret (results_box5 rfl _ _ (w.heap.size + 1) _ _ _ _ _ rfl ((HR2.out.all _ _ _ _ _).keep ((Keep.refl _).alloc _))) rfl ⟨rfl, (HK2.out.all5 (Nat.le_succ _) _ _ _ _ _).alloc _⟩
end Go.Proofs.YtpdjpjkieafnbaaGreatDoor.Li
