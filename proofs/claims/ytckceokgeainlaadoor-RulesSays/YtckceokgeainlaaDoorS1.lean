import Derived.Test.YtckceokgeainlaaDoorLP
import Derived.Test.YtckceokgeainlaaDoorShelf
import Derived.Lib.ItoaNum
import Derived.Lib.LaidTab
import Derived.Deep.RegionHeld3
set_option linter.unusedVariables false
set_option linter.unusedSimpArgs false
namespace Go.Proofs.YtckceokgeainlaaDoor
open Go.RowKit Lb
theorem S8_app (a b : List Nat) : S8 a ++ S8 b = S8 (a ++ b) := by
  unfold S8
  apply ByteArray.ext
  simp
theorem dd_eq : ∀ n : Nat, 0 < n → (rdig n).reverse.map UInt8.ofNat = Lib.decDigits n := by
  intro n
  induction n using Nat.strongRecOn with
  | ind n ih =>
    intro h
    rw [rdig_pos h, List.reverse_cons, List.map_append, Lib.decDigits]
    split
    · rename_i h10
      rw [show n / 10 = 0 by omega, rdig_zero, show n % 10 = n by omega]
      simp
    · rename_i h10
      rw [ih (n / 10) (by omega) (by omega)]
      simp
/-- A whole number in decimal digits. -/
def num (n : Int) : List Nat := if n < 0 then 45 :: dec n.natAbs else dec n.toNat
theorem dec_dd (n : Nat) : (dec n).map UInt8.ofNat = Lib.decDigits n := by
  by_cases h : n = 0
  · subst h; rw [Lib.decDigits_one (by omega)]; rfl
  · rw [← rdig_dec (by omega), dd_eq n (by omega)]
theorem num_itoa (n : Int) : S8 (num n) = ⟨(Lib.itoa n).toArray⟩ := by
  unfold S8 num Lib.itoa
  split
  · rw [List.map_cons, dec_dd]; rfl
  · rw [dec_dd]
/-- The library's table. -/
def Pw10 (w : World) : Prop := Lib.TabIs Tryd.prog w "internal/strconv.uint64pow10" .u64 Lib.pow10Tab
theorem Pw10.keep {w w' : World} (h : Pw10 w) (k : Keep w w') : Pw10 w' := by
  unfold Pw10 Lib.TabIs World.var? at *
  cases hg : Tryd.prog.globalNamed "internal/strconv.uint64pow10" with
  | none => rw [hg] at h; simp at h
  | some g =>
    rw [hg] at h
    simp only [Option.bind_some] at h ⊢
    have hlt : g < w.heap.size := by
      rcases Nat.lt_or_ge g w.heap.size with h1 | h1
      · exact h1
      · rw [Array.getElem?_eq_none h1] at h; simp at h
    rw [k.block g hlt]
    exact h
theorem Itoa_any (n : Int) (w : World) (h0 : -9223372036854775808 ≤ n) (h1 : n ≤ 9223372036854775807) (hT : Pw10 w) :
    Calls Tryd.prog 48 #[.int .i64 n] w fun e w' => e = .returned (.string (S8 (num n))) ∧ Keep w w' := by
  refine (Tryd.strconv_Itoa n h0 h1 w hT).mono ?_
  rintro e w' ⟨rfl, k, os, rfl⟩
  refine ⟨by rw [num_itoa], ?_⟩
  refine ⟨rfl, rfl, rfl, ?_, ?_⟩
  · simp [Sort.grow]
  · intro j hj
    simp [Sort.grow, Array.getElem?_append, hj]
set_option maxRecDepth 100000 in
theorem rdigits_any (n : Nat) (w : World) (hn : n ≤ 9223372036854775807) :
    Calls Tryd.prog 51 #[.int .i64 (n : Nat)] w fun e w' => e = .returned (.string (S8 (dec n))) ∧ Keep w w' := by
  have h1 := rFrom_any n w (by omega)
  go_enter Tryd.func51, Tryd.ntmps51
  go_wp2_with fail
  refine h1.mono ?_
  rintro e w1 ⟨v, l, rfl, o1, m1, n1, e1, k1⟩
  obtain ⟨a1, c1, rfl, hc1, r1⟩ := o1.shape
  have hl : l.length ≤ 1048576 := by
    have h3 := val_len (a := [4294967295, 4294967295]) (by intro z hz; simp at hz; omega) n1 (by rw [e1, show val [4294967295, 4294967295] = 18446744073709551615 from rfl]; omega)
    simp at h3
    omega
  have h2 := rPrint_any a1 c1 l w1 hc1 hl r1 m1
  rw [e1] at h2
  go_wp2_with fail
  refine h2.mono ?_
  rintro e w2 ⟨rfl, k2⟩
  go_wp2_with fail
  go_ret
  exact ⟨rfl, k1.trans k2⟩
theorem dec_len {n : Nat} (h : n ≤ 9223372036854775808) : (dec n).length ≤ 19 := by
  by_cases h0 : n = 0
  · subst h0; decide
  · rw [← rdig_dec (by omega), List.length_reverse]
    exact rdig_len 19 n (by rw [show (10 : Nat) ^ 19 = 10000000000000000000 from rfl]; omega)
theorem num_len {n : Int} (h0 : -9223372036854775808 ≤ n) (h1 : n ≤ 9223372036854775807) : (num n).length ≤ 20 := by
  unfold num
  split
  · have := dec_len (n := n.natAbs) (by omega)
    simp; omega
  · have := dec_len (n := n.toNat) (by omega)
    omega
theorem S8_len (l : List Nat) : (S8 l).size = l.length := by simp [S8, ByteArray.size]
/-- A number behind what it is one of; nothing, if it is none. -/
def plc (s : List Nat) (i : Int) : List Nat := if i < 0 then [] else s ++ num i
set_option maxRecDepth 100000 in
theorem place_any (s : List Nat) (i : Int) (w : World) (hs : s.length ≤ 100) (h0 : -9223372036854775808 ≤ i) (h1 : i ≤ 9223372036854775807) (hT : Pw10 w) :
    Calls Tryd.prog 49 #[.string (S8 s), .int .i64 i] w fun e w' => e = .returned (.string (S8 (plc s i))) ∧ Keep w w' := by
  have hI := Itoa_any i w h0 h1 hT
  unfold plc
  by_cases h : i < 0
  · rw [if_pos h]
    go_enter Tryd.func49, Tryd.ntmps49
    go_wp2_with fail
    go_ret
    exact ⟨rfl, Keep.refl _⟩
  · rw [if_neg h, ← S8_app]
    have hz : ¬ 9223372036854775807 < (S8 s).size + (S8 (num i)).size := by
      have := num_len h0 h1
      rw [S8_len, S8_len]; omega
    generalize S8 s = t at hz ⊢
    generalize S8 (num i) = u at hI hz ⊢
    have hd : decide (i < 0) = false := by simp; omega
    go_enter Tryd.func49, Tryd.ntmps49
    go_wp2_with (go_at_call 48; refine hI.mono ?_; rintro e w1 ⟨rfl, k1⟩)
    go_ret
    exact ⟨rfl, k1⟩
/-- What a broken rule is written as. -/
def say (r t n : Int) : List Nat := if r = 0 then [114, 105, 103, 104, 116] else [114, 117, 108, 101, 32] ++ num r ++ plc [32, 116, 114, 101, 101, 32] t ++ plc [32, 110, 111, 100, 101, 32] n
theorem plc_len {s : List Nat} {i : Int} (hs : s.length ≤ 100) (h0 : -9223372036854775808 ≤ i) (h1 : i ≤ 9223372036854775807) : (plc s i).length ≤ 120 := by
  have := num_len h0 h1
  unfold plc
  split
  · simp
  · simp; omega
set_option maxRecDepth 100000 in
theorem Say_any (r t n : Int) (w : World) (hr0 : -9223372036854775808 ≤ r) (hr1 : r ≤ 9223372036854775807) (ht0 : -9223372036854775808 ≤ t) (ht1 : t ≤ 9223372036854775807) (hn0 : -9223372036854775808 ≤ n) (hn1 : n ≤ 9223372036854775807) (hT : Pw10 w) :
    Calls Tryd.prog 22 #[.agg #[.int .i64 r, .int .i64 t, .int .i64 n]] w fun e w' => e = .returned (.string (S8 (say r t n))) ∧ Keep w w' := by
  unfold say
  by_cases h : r = 0
  · subst h
    rw [if_pos rfl]
    go_enter Tryd.func22, Tryd.ntmps22
    go_wp2_with fail
    go_ret
    exact ⟨rfl, (Keep.refl _).alloc _⟩
  · rw [if_neg h, ← S8_app, ← S8_app, ← S8_app]
    have hb : (r == 0) = false := by rw [beq_eq_false_iff_ne]; exact h
    have hI := fun wx (k : Keep w wx) => Itoa_any r wx hr0 hr1 (hT.keep k)
    have hP := fun wx (k : Keep w wx) => place_any [32, 116, 114, 101, 101, 32] t wx (by simp) ht0 ht1 (hT.keep k)
    have hQ := fun wx (k : Keep w wx) => place_any [32, 110, 111, 100, 101, 32] n wx (by simp) hn0 hn1 (hT.keep k)
    have z1 : (S8 (num r)).size ≤ 20 := by rw [S8_len]; exact num_len hr0 hr1
    have z2 : (S8 (plc [32, 116, 114, 101, 101, 32] t)).size ≤ 120 := by rw [S8_len]; exact plc_len (by simp) ht0 ht1
    have z3 : (S8 (plc [32, 110, 111, 100, 101, 32] n)).size ≤ 120 := by rw [S8_len]; exact plc_len (by simp) hn0 hn1
    have c1 : S8 [32, 116, 114, 101, 101, 32] = ⟨#[32, 116, 114, 101, 101, 32]⟩ := rfl
    have c2 : S8 [32, 110, 111, 100, 101, 32] = ⟨#[32, 110, 111, 100, 101, 32]⟩ := rfl
    have c3 : S8 [114, 117, 108, 101, 32] = ⟨#[114, 117, 108, 101, 32]⟩ := rfl
    rw [c1] at hP
    rw [c2] at hQ
    rw [c3]
    generalize S8 (num r) = x1 at *
    generalize S8 (plc [32, 116, 114, 101, 101, 32] t) = x2 at *
    generalize S8 (plc [32, 110, 111, 100, 101, 32] n) = x3 at *
    clear c1 c2 c3
    go_enter Tryd.func22, Tryd.ntmps22
    have k0 : Keep w (w.alloc (Obj.cells #[Value.int IntKind.i64 r, Value.int IntKind.i64 t, Value.int IntKind.i64 n] 30)) := (Keep.refl _).alloc _
    have h1 : (w.alloc (Obj.cells #[Value.int IntKind.i64 r, Value.int IntKind.i64 t, Value.int IntKind.i64 n] 30)).heap[w.heap.size]? = some (Obj.cells #[Value.int IntKind.i64 r, Value.int IntKind.i64 t, Value.int IntKind.i64 n] 30 (0, 0)) := heap_alloc_new w _
    have y0 : (w.alloc (Obj.cells #[Value.int IntKind.i64 r, Value.int IntKind.i64 t, Value.int IntKind.i64 n] 30)).cell? ⟨w.heap.size, 0, none⟩ = some (.int .i64 r) := by rw [cell_of_row _ _ 0 _ 30 (0, 0) h1]; rfl
    have y1 : (w.alloc (Obj.cells #[Value.int IntKind.i64 r, Value.int IntKind.i64 t, Value.int IntKind.i64 n] 30)).cell? ⟨w.heap.size, 1, none⟩ = some (.int .i64 t) := by rw [cell_of_row _ _ 1 _ 30 (0, 0) h1]; rfl
    have y2 : (w.alloc (Obj.cells #[Value.int IntKind.i64 r, Value.int IntKind.i64 t, Value.int IntKind.i64 n] 30)).cell? ⟨w.heap.size, 2, none⟩ = some (.int .i64 n) := by rw [cell_of_row _ _ 2 _ 30 (0, 0) h1]; rfl
    have q1 : ¬ 9223372036854775807 < 5 + x1.size := by omega
    have q2 : ¬ 9223372036854775807 < 5 + x1.size + x2.size := by omega
    have q3 : ¬ 9223372036854775807 < 5 + x1.size + x2.size + x3.size := by omega
    clear h1
    go_wp2_with fail
    generalize w.alloc _ = W at k0 y0 y1 y2 ⊢
    generalize w.heap.size = g at y0 y1 y2 ⊢
    have kd : Keep w W.drew := k0.drew
    go_region_held3 (fun w' => w'.cell? ⟨g, 0, none⟩ = some (Value.int .i64 r) ∧ w'.cell? ⟨g, 1, none⟩ = some (Value.int .i64 t) ∧ w'.cell? ⟨g, 2, none⟩ = some (Value.int .i64 n)) (go_keep) (first
      | (go_at_call 48; refine (hI _ ?_).mono ?_; exact kd; rintro e wA ⟨rfl, kA⟩; have k1 := kd.trans kA; have s0 := Keep.cell kA y0; have s1 := Keep.cell kA y1; have s2 := Keep.cell kA y2)
      | (go_at_call_of 49 (Value.string ⟨#[32, 116, 114, 101, 101, 32]⟩); refine (hP _ ?_).mono ?_; exact k1; rintro e wB ⟨rfl, kB⟩; have k2 := k1.trans kB; have u0 := Keep.cell kB s0; have u1 := Keep.cell kB s1; have u2 := Keep.cell kB s2)
      | (go_at_call_of 49 (Value.string ⟨#[32, 110, 111, 100, 101, 32]⟩); refine (hQ _ ?_).mono ?_; exact k2; rintro e wC ⟨rfl, kC⟩; have k3 := k2.trans kC; have v0 := Keep.cell kC u0; have v1 := Keep.cell kC u1; have v2 := Keep.cell kC u2))
    all_goals
      go_simp
      go_wp2_with fail
      go_ret
      exact ⟨rfl, k3⟩
end Go.Proofs.YtckceokgeainlaaDoor
