import Derived.Test.YtaogjiffnebnkaaP4
import Derived.Test.YtaogjiffnebnkaaSM
import Derived.BigQuiet
import Derived.Deep.QuietTactic
import Derived.Laws.Externs
set_option linter.unusedVariables false
set_option linter.unusedSimpArgs false
namespace Go.Proofs.Ytaogjiffnebnkaa
open Go.RowKit
theorem retI {k : IntKind} {a b : Int} (h : a = b) : Ending.returned (.int k a) = .returned (.int k b) := by rw [h]
theorem f64bitsQ (x : Nat) (w : World) : (callFunc 24 #[.float .f64 x]).run Try.prog w = .ok (.value (.int .u64 (x : Nat))) w := by
  rw [run_callFunc_extern Try.func24 (by kernel_rfl) (by kernel_rfl) (by kernel_rfl) (e := Extern.MathFloatBits.float64bits) (by kernel_rfl)]
  rfl
/-- The key of a number's bits. -/
def key (x : Nat) : Nat := if 9218868437227405312 < x % 9223372036854775808 then 18437736874454810625 else if x < 9223372036854775808 then 9218868437227405312 + x else 9218868437227405312 - x % 9223372036854775808
theorem andnot (x : Nat) (h : x < 18446744073709551616) : bits .andNot .u64 (x : Int) 9223372036854775808 = ((x % 9223372036854775808 : Nat) : Int) := by
  have := u64_andNot_nat x 9223372036854775808 h (by omega)
  rw [show ((9223372036854775808 : Nat) : Int) = 9223372036854775808 from rfl] at this
  rw [this, show 18446744073709551615 - 9223372036854775808 = 2 ^ 63 - 1 by decide, Nat.and_two_pow_sub_one_eq_mod]
theorem key_nan {x : Nat} (h : 9218868437227405312 < x % 9223372036854775808) : key x = 18437736874454810625 := by unfold key; rw [if_pos h]
theorem key_pos {x : Nat} (h : ¬ 9218868437227405312 < x % 9223372036854775808) (h2 : x < 9223372036854775808) : key x = 9218868437227405312 + x := by unfold key; rw [if_neg h, if_pos h2]
theorem key_neg {x : Nat} (h : ¬ 9218868437227405312 < x % 9223372036854775808) (h2 : ¬ x < 9223372036854775808) : key x = 9218868437227405312 - x % 9223372036854775808 := by unfold key; rw [if_neg h, if_neg h2]
theorem Key_any (x : Nat) (w : World) (hx : x < 18446744073709551616) :
    Calls Try.prog 55 #[.float .f64 x] w fun e w' => e = .returned (.int .u64 (key x : Nat)) ∧ w' = w := by
  have hb := f64bitsQ x
  have ha := andnot x hx
  by_cases h1 : 9218868437227405312 < x % 9223372036854775808
  · have Hk : Hid (key x = _) := key_nan h1
    obtain ⟨a, e⟩ : ∃ a, x % 9223372036854775808 = a := ⟨_, rfl⟩
    rw [e] at h1 ha; clear e
    have h1' : (9218868437227405312 : Int) < (a : Int) := by omega
    go_enter Try.func55, Try.ntmps55
    go_wp2
    go_ret
    exact ⟨retI (by rw [Hk.out]; rfl), rfl⟩
  · by_cases h2 : x < 9223372036854775808
    · have Hk : Hid (key x = _) := key_pos h1 h2
      rw [Nat.mod_eq_of_lt h2] at h1 ha
      have h1' : (x : Int) ≤ 9218868437227405312 := by omega
      go_enter Try.func55, Try.ntmps55
      go_wp2
      go_ret
      exact ⟨retI (by rw [Hk.out]; omega), rfl⟩
    · have Hk : Hid (key x = _) := key_neg h1 h2
      obtain ⟨a, e⟩ : ∃ a, x % 9223372036854775808 = a := ⟨_, rfl⟩
      rw [e] at h1 ha Hk
      have h1' : (a : Int) ≤ 9218868437227405312 := by omega
      have h2' : ((x : Int) == (a : Int)) = false := by rw [beq_eq_false_iff_ne]; omega
      clear e
      go_enter Try.func55, Try.ntmps55
      go_wp2
      go_ret
      exact ⟨retI (by rw [Hk.out]; omega), rfl⟩
/-- What a comparison answers. -/
def cmpQ (x y : Int) : Int := if x < y then -1 else if y < x then 1 else 0
theorem cmpQ_lt (x y : Int) : decide (cmpQ x y < 0) = decide (x < y) := by
  unfold cmpQ
  by_cases h : x < y
  · rw [if_pos h]; simp; exact h
  · rw [if_neg h, decide_eq_false h]
    split <;> decide
theorem isNaN_u (x : Nat) (w : World) : Calls Try.prog 88 #[.int .u64 (x : Nat)] w fun e w' => e = .returned (.bool false) ∧ w = w' := by
  go_enter Try.func88, Try.ntmps88
  go_wp2_with fail
  go_ret
  exact ⟨ret_bool (by simp), rfl⟩
theorem cmpU_any (x y : Nat) (w : World) : Calls Try.prog 75 #[.int .u64 (x : Nat), .int .u64 (y : Nat)] w fun e w' => e = .returned (.int .i64 (cmpQ (x : Int) (y : Int))) ∧ w = w' := by
  have h1 := isNaN_u x w
  have h2 := isNaN_u y w
  by_cases hxy : x < y
  · have hv : Hid (cmpQ (x : Int) (y : Int) = -1) := by show _ = _; unfold cmpQ; rw [if_pos (by omega)]
    have hc : (x : Int) < (y : Int) := by omega
    go_enter Try.func75, Try.ntmps75
    go_wp2_with fail
    refine h1.mono ?_
    rintro e w1 ⟨rfl, rfl⟩
    go_wp2_with fail
    refine h2.mono ?_
    rintro e w1 ⟨rfl, rfl⟩
    go_wp2_with fail
    go_ret
    exact ⟨retI hv.out.symm, rfl⟩
  · have hc : ¬ (x : Int) < (y : Int) := by omega
    by_cases hyx : y < x
    · have hv : Hid (cmpQ (x : Int) (y : Int) = 1) := by show _ = _; unfold cmpQ; rw [if_neg (by omega), if_pos (by omega)]
      have hc2 : (y : Int) < (x : Int) := by omega
      go_enter Try.func75, Try.ntmps75
      go_wp2_with fail
      refine h1.mono ?_
      rintro e w1 ⟨rfl, rfl⟩
      go_wp2_with fail
      refine h2.mono ?_
      rintro e w1 ⟨rfl, rfl⟩
      go_wp2_with fail
      go_ret
      exact ⟨retI hv.out.symm, rfl⟩
    · obtain rfl : x = y := by omega
      have hv : Hid (cmpQ (x : Int) (x : Int) = 0) := by show _ = _; unfold cmpQ; rw [if_neg (by omega), if_neg (by omega)]
      clear hxy hyx hc
      go_enter Try.func75, Try.ntmps75
      go_wp2_with fail
      refine h1.mono ?_
      rintro e w1 ⟨rfl, rfl⟩
      go_wp2_with fail
      refine h2.mono ?_
      rintro e w1 ⟨rfl, rfl⟩
      go_wp2_with fail
      go_ret
      exact ⟨retI hv.out.symm, rfl⟩
end Go.Proofs.Ytaogjiffnebnkaa
set_option linter.unusedVariables false
set_option linter.unusedSimpArgs false
namespace Go.Proofs.Ytaogjiffnebnkaa
open Go.RowKit Go.Shelf
/-- A region in whatever order whose operations read alone, its calls keeping what was there. -/
theorem region_keepQ {id : Nat} {Q : Exit → Act → World → Prop} {a : Act} {w w2 : World} {l : List Oper} (k : Keep w2 w) (hm : Try.prog.follows .mixedOrders = true) (hB : Region.lexB .any l.toArray = true)
    (h : wpQuiet Try.prog l.toArray (Keep w2) (fun a' => ∀ w', Keep w2 w' → Q .normal a' w') l a) : (Code.region id l.toArray true).wp Try.prog Q a w :=
  wp_region_quiet (C := Keep w2) hm hB k.drew (by simpa using h)
/-- An item: a cut, and where its categories lie. -/
abbrev CI := Ct × Option Addr × Nat
def CI.v (x : CI) : Value := .agg #[.float .f64 x.1.th, .slice x.2.1 x.1.cs.length x.2.2, .int .i64 x.1.tr, .int .i64 x.1.fr, .int .i64 x.1.to]
theorem lists1_any (th : Nat) (ca : Option Addr) (n cp : Nat) (tr fr to : Int) (w : World) (hx : th < 18446744073709551616) :
    Calls Try.prog 54 #[.agg #[.float .f64 th, .slice ca n cp, .int .i64 tr, .int .i64 fr, .int .i64 to]] w fun e w' => e = .returned (.int .u64 (key th : Nat)) ∧ Keep w w' := by
  have hK := fun wx => Key_any th wx hx
  obtain ⟨w1, hw1, k1, x0⟩ : ∃ w1, w.alloc (Obj.cells #[.float .f64 th, .slice ca n cp, .int .i64 tr, .int .i64 fr, .int .i64 to] 57) = w1 ∧ Keep w w1 ∧ w1.cell? ⟨w.heap.size, 0, none⟩ = some (.float .f64 th) := ⟨_, rfl, (Keep.refl w).alloc _, by rw [cell_of_row _ _ 0 _ 57 (0, 0) (heap_alloc_new w _)]; rfl⟩
  go_enter Try.func54, Try.ntmps54
  go_wp2_with fail
  try rw [hw1]
  refine (hK _).mono ?_
  rintro e w2 ⟨rfl, rfl⟩
  go_wp2_with fail
  go_ret
  exact ⟨rfl, k1⟩
set_option maxRecDepth 100000 in
set_option maxHeartbeats 1000000 in
/-- Two cuts compared by their keys. -/
theorem cmpC_any (th1 : Nat) (ca1 : Option Addr) (n1 cp1 : Nat) (tr1 fr1 to1 : Int) (th2 : Nat) (ca2 : Option Addr) (n2 cp2 : Nat) (tr2 fr2 to2 : Int) (kb : Nat) (w : World) (h1 : th1 < 18446744073709551616) (h2 : th2 < 18446744073709551616) (hkb : w.cell? ⟨kb, 0, none⟩ = some (.func (.func 54) #[] #[])) :
    Calls Try.prog 74 #[.agg #[.float .f64 th1, .slice ca1 n1 cp1, .int .i64 tr1, .int .i64 fr1, .int .i64 to1], .agg #[.float .f64 th2, .slice ca2 n2 cp2, .int .i64 tr2, .int .i64 fr2, .int .i64 to2], .pointer (some ⟨kb, 0, none⟩)] w fun e w' => e = .returned (.int .i64 (cmpQ (key th1 : Nat) (key th2 : Nat))) ∧ Keep w w' := by
  have hA := fun wx => lists1_any th1 ca1 n1 cp1 tr1 fr1 to1 wx h1
  have hB := fun wx => lists1_any th2 ca2 n2 cp2 tr2 fr2 to2 wx h2
  have hC := fun wx => cmpU_any (key th1) (key th2) wx
  obtain ⟨w2, hw2, k2, p1, p2⟩ : ∃ w2, (w.alloc (Obj.cells #[.float .f64 th1, .slice ca1 n1 cp1, .int .i64 tr1, .int .i64 fr1, .int .i64 to1] 57)).alloc (Obj.cells #[.float .f64 th2, .slice ca2 n2 cp2, .int .i64 tr2, .int .i64 fr2, .int .i64 to2] 57) = w2 ∧ Keep w w2 ∧ w2.heap[w.heap.size]? = some (Obj.cells #[.float .f64 th1, .slice ca1 n1 cp1, .int .i64 tr1, .int .i64 fr1, .int .i64 to1] 57 (0, 0)) ∧ w2.heap[w.heap.size + 1]? = some (Obj.cells #[.float .f64 th2, .slice ca2 n2 cp2, .int .i64 tr2, .int .i64 fr2, .int .i64 to2] 57 (0, 0)) := by
    refine ⟨_, rfl, ((Keep.refl w).alloc _).alloc _, ?_, ?_⟩
    · rw [Below.heap_alloc _ _ _ (by rw [World.size_alloc]; omega)]; exact heap_alloc_new w _
    · have := heap_alloc_new (w.alloc (Obj.cells #[.float .f64 th1, .slice ca1 n1 cp1, .int .i64 tr1, .int .i64 fr1, .int .i64 to1] 57)) (Obj.cells #[.float .f64 th2, .slice ca2 n2 cp2, .int .i64 tr2, .int .i64 fr2, .int .i64 to2] 57)
      rw [World.size_alloc] at this
      exact this
  have x0 := cell_of_row _ _ 0 _ 57 (0, 0) p1
  have x1 := cell_of_row _ _ 1 _ 57 (0, 0) p1
  have x2 := cell_of_row _ _ 2 _ 57 (0, 0) p1
  have x3 := cell_of_row _ _ 3 _ 57 (0, 0) p1
  have x4 := cell_of_row _ _ 4 _ 57 (0, 0) p1
  have y0 := cell_of_row _ _ 0 _ 57 (0, 0) p2
  have y1 := cell_of_row _ _ 1 _ 57 (0, 0) p2
  have y2 := cell_of_row _ _ 2 _ 57 (0, 0) p2
  have y3 := cell_of_row _ _ 3 _ 57 (0, 0) p2
  have y4 := cell_of_row _ _ 4 _ 57 (0, 0) p2
  simp only [List.getElem?_toArray, List.getElem?_cons_zero, List.getElem?_cons_succ] at x0 x1 x2 x3 x4 y0 y1 y2 y3 y4
  have z := k2.cell hkb
  replace p1 : Hid _ := p1
  replace p2 : Hid _ := p2
  clear hkb
  generalize cmpQ (key th1 : Nat) (key th2 : Nat) = r at hC ⊢
  generalize key th1 = q1 at hA hC
  generalize key th2 = q2 at hB hC
  go_enter Try.func74, Try.ntmps74
  go_wp2_with fail
  try rw [hw2]
  refine region_keepQ (Keep.refl w2) (by kernel_rfl) (by kernel_rfl) ?_
  repeat
    with_reducible refine wpQuiet_step ?_
    intro K hK
    go_simp
    first
      | (with_reducible refine hK _ ?_; clear hK K)
      | (apply Exists.intro
         with_reducible refine ⟨fun wx hq => ?_, hK _ ?_⟩
         · first
             | with_reducible rfl
             | with_reducible exact (hA wx).mono fun e w'' h => ⟨h.1, hq.trans h.2⟩
             | with_reducible exact (hB wx).mono fun e w'' h => ⟨h.1, hq.trans h.2⟩
             | with_reducible exact (hC wx).mono fun e w'' h => ⟨h.1, h.2 ▸ hq⟩
             | (have x0' := hq.cell x0; have x1' := hq.cell x1; have x2' := hq.cell x2; have x3' := hq.cell x3; have x4' := hq.cell x4; have y0' := hq.cell y0; have y1' := hq.cell y1; have y2' := hq.cell y2; have y3' := hq.cell y3; have y4' := hq.cell y4; have z' := hq.cell z; go_simp; with_reducible rfl)
         clear hK K)
  with_reducible refine wpQuiet_nil ?_
  intro w3 k3
  go_simp
  go_wp2_with fail
  go_ret
  exact ⟨rfl, k2.trans k3⟩
end Go.Proofs.Ytaogjiffnebnkaa
set_option linter.unusedVariables false
set_option linter.unusedSimpArgs false
namespace Go.Proofs.Ytaogjiffnebnkaa
open Go.RowKit Go.Shelf
theorem wrap_up4 {k n : Nat} (h : n ≤ 1099511627776) (h1 : k < n) : wrap64 ((k : Int) + 1) = ((k + 1 : Nat) : Int) := by
  unfold wrap64; omega
set_option maxRecDepth 100000 in
set_option maxHeartbeats 4000000 in
theorem Same_big (a b : Option Addr) (ca cb : Nat) (L : List Ct) (n : Nat) (hn : L.length = n) (w : World) (hLn : n ≤ 1099511627776) (ha : RdC w a L) (hb : RdC w b L) :
    Calls Try.prog 19 #[.slice a n ca, .slice b n cb] w fun e w' => e = .returned (.bool true) ∧ Keep w w' := by
  have hB := fun (x : Nat) (wx : World) => f64bits x wx
  have HL : Hid (n ≤ 1099511627776) := hLn
  have HN : Hid (L.length = n) := hn
  clear hLn hn
  go_enter Try.func19, Try.ntmps19
  go_wp2_with fail
  go_loopw [5] (fun iv wr => ∃ k : Nat, k ≤ n ∧ iv = .int .i64 k ∧ Keep w wr) (fun iv _ => n - (intOf iv).toNat)
  case atStart => exact ⟨0, Nat.zero_le _, rfl, Keep.refl w⟩
  case round =>
    obtain ⟨k, hk, rfl, kw⟩ := hrel
    by_cases hkl : k < n
    · have hkc : (k : Int) < (n : Int) := by omega
      obtain ⟨b1, o1, ca1, cp1, rfl, h1⟩ := (ha.keep kw) k (by rw [HN.out]; exact hkl)
      obtain ⟨b2, o2, ca2, cp2, rfl, h2⟩ := (hb.keep kw) k (by rw [HN.out]; exact hkl)
      generalize L.getD k cd0 = N at *
      obtain ⟨c0, c1, c2, c3, c4, r1, -, s1⟩ := h1
      obtain ⟨d0, d1, d2, d3, d4, r2, -, s2⟩ := h2
      have hI := fun (wx : World) (k : Keep wr wx) => rInts_any ca1 ca2 cp1 cp2 N.cs N.cs wx s1 (r1.keep k) (r2.keep k)
      rw [decide_eq_true rfl] at hI
      clear r1 r2 s1 s2
      go_wp2_with fail
      simp only [List.append_eq, List.cons_append, List.nil_append]
      refine region_keepQ (Keep.refl wr) (by kernel_rfl) (by kernel_rfl) ?_
      repeat
        with_reducible refine wpQuiet_step ?_
        intro K hK
        go_simp
        first
          | (with_reducible refine hK _ ?_; clear hK K)
          | (with_reducible refine (if_neg ?_).mpr (hK _ ?_)
             · decide
             clear hK K)
          | (apply Exists.intro
             with_reducible refine ⟨fun wx hq => ?_, hK _ ?_⟩
             · first
                 | with_reducible rfl
                 | with_reducible exact (hI wx hq).mono fun e w'' h => ⟨h.1, hq.trans h.2⟩
                 | (have x0 := hq.cell c0; have x1 := hq.cell c1; have x2 := hq.cell c2; have x3 := hq.cell c3; have x4 := hq.cell c4; have y0 := hq.cell d0; have y1 := hq.cell d1; have y2 := hq.cell d2; have y3 := hq.cell d3; have y4 := hq.cell d4; go_simp; with_reducible rfl)
             clear hK K)
      with_reducible refine wpQuiet_nil ?_
      intro w3 k3
      go_simp
      go_wp2_with fail
      have hL := HL.out
      rw [wrap_up4 hL hkl]
      exact ⟨⟨k + 1, hkl, rfl, kw.trans k3⟩, by show n - (((k + 1 : Nat) : Int)).toNat < n - ((k : Int)).toNat; omega⟩
    · have hkc : ¬ (k : Int) < (n : Int) := by omega
      go_wp2_with fail
      go_ret
      exact ⟨rfl, kw⟩
end Go.Proofs.Ytaogjiffnebnkaa
