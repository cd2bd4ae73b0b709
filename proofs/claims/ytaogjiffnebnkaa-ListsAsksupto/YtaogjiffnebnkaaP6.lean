import Derived.Test.YtaogjiffnebnkaaP5
set_option linter.unusedVariables false
set_option linter.unusedSimpArgs false
namespace Go.Proofs.Ytaogjiffnebnkaa
open Go.RowKit Go.Shelf
/-- Is the number one of these? -/
def eqI (c : Int) (x : Nat) : Bool := FloatKind.f64.format.order (floatOfInt FloatKind.f64 c) x == some .eq
def amB (l : List Int) (x : Nat) : Bool := l.any (fun c => eqI c x)
theorem amB_yes {l : List Int} {x k : Nat} (hk : k < l.length) (h : eqI (l.getD k 0) x = true) : amB l x = true := by
  refine List.any_eq_true.2 ⟨l[k], List.getElem_mem hk, ?_⟩
  have : l.getD k 0 = l[k] := by simp [List.getD, hk]
  rw [← this]; exact h
theorem amB_no {l : List Int} {x : Nat} (h : ∀ i, i < l.length → eqI (l.getD i 0) x = false) : amB l x = false := by
  unfold amB
  rw [List.any_eq_false]
  intro c hc
  obtain ⟨i, hi, rfl⟩ := List.getElem_of_mem hc
  have : l.getD i 0 = l[i] := by simp [List.getD, hi]
  have := h i hi
  simp_all
set_option maxRecDepth 100000 in
theorem rin_any (a : Option Addr) (c : Nat) (l : List Int) (x : Nat) (w : World) (hl : l.length ≤ 17592186044416) (hr : RdI w a l) :
    Calls Try.prog 44 #[.slice a l.length c, .float .f64 x] w fun e w' => e = .returned (.bool (amB l x)) ∧ Keep w w' := by
  go_enter Try.func44, Try.ntmps44
  go_wp2_with fail
  go_loop [5] (fun i => ∃ k : Nat, k ≤ l.length ∧ i = .int .i64 k ∧ Hid (∀ j, j < k → eqI (l.getD j 0) x = false)) (fun i => l.length - (intOf i).toNat)
  case atStart => exact ⟨0, by omega, rfl, by intro j hj; omega⟩
  case round =>
    obtain ⟨k, hk, rfl, hinv⟩ := hrel
    by_cases hkl : k < l.length
    · have hkc : (k : Int) < (l.length : Int) := by omega
      obtain ⟨b, o, rfl, c0⟩ := hr k hkl
      cases he : eqI (l.getD k 0) x
      · have he' : (FloatKind.f64.format.order (floatOfInt FloatKind.f64 (l.getD k 0)) x == some .eq) = false := he
        have hn : Hid (∀ j, j < k + 1 → eqI (l.getD j 0) x = false) := by
          intro j hj
          rcases Nat.lt_or_ge j k with h1 | h1
          · exact hinv.out j h1
          · obtain rfl : j = k := by omega
            exact he
        generalize l.getD k 0 = y at *
        clear he
        go_wp2_with fail
        go_round
        case rel => exact ⟨k + 1, by omega, by go_num, hn⟩
        case measure => simp [intOf]; omega
      · have he' : (FloatKind.f64.format.order (floatOfInt FloatKind.f64 (l.getD k 0)) x == some .eq) = true := he
        have HR : Hid (amB l x = true) := amB_yes hkl he
        generalize l.getD k 0 = y at *
        clear he
        go_wp2_with fail
        go_ret
        exact ⟨ret_bool HR.out.symm, Keep.refl w⟩
    · have hkc : ¬ (k : Int) < (l.length : Int) := by omega
      have HR : Hid (amB l x = false) := amB_no fun i hi => hinv.out i (by omega)
      go_wp2_with fail
      go_ret
      exact ⟨ret_bool HR.out.symm, Keep.refl w⟩
theorem isAmong1_any (c : Int) (b : Nat) (x : Nat) (w : World) (h : w.cell? ⟨b, 0, none⟩ = some (.float .f64 x)) :
    Calls Try.prog 64 #[.int .i64 c, .pointer (some ⟨b, 0, none⟩)] w fun e w' => e = .returned (.bool (eqI c x)) ∧ w' = w := by
  have HR : Hid (eqI c x = (FloatKind.f64.format.order (floatOfInt FloatKind.f64 c) x == some .eq)) := rfl
  go_enter Try.func64, Try.ntmps64
  go_wp2_with fail
  go_ret
  exact ⟨ret_bool HR.out.symm, rfl⟩
/-- The first place. -/
def idx (l : List Int) (x : Nat) : Int := if amB l x then ((l.takeWhile (fun c => !eqI c x)).length : Nat) else -1
theorem take_all2 {p : Int → Bool} : ∀ (L : List Int) (k : Nat), k < L.length → (∀ j, j < k → p (L.getD j 0) = true) → p (L.getD k 0) = false → (L.takeWhile p).length = k
  | [], k, hk, _, _ => by simp at hk
  | c :: L, 0, _, _, h => by
    simp only [List.getD_cons_zero] at h
    rw [List.takeWhile_cons, h]; rfl
  | c :: L, k + 1, hk, h1, h2 => by
    have h0 := h1 0 (by omega)
    simp only [List.getD_cons_zero] at h0
    rw [List.takeWhile_cons, h0]
    have ih := take_all2 L k (by simpa using hk) (fun j hj => by have := h1 (j + 1) (by omega); simpa using this) (by simpa using h2)
    simp [ih]
set_option maxRecDepth 100000 in
set_option maxHeartbeats 1000000 in
theorem IndexFunc_any (a : Option Addr) (c : Nat) (l : List Int) (b x : Nat) (w : World) (hl : l.length ≤ 17592186044416) (hr : RdI w a l) (h : w.cell? ⟨b, 0, none⟩ = some (.float .f64 x)) :
    Calls Try.prog 80 #[.slice a l.length c, .func (.func 64) #[] #[.pointer (some ⟨b, 0, none⟩)]] w fun e w' => e = .returned (.int .i64 (idx l x)) ∧ w' = w := by
  have hC := fun (c : Int) => isAmong1_any c b x w h
  go_enter Try.func80, Try.ntmps80
  go_wp2_with fail
  go_loop [8] (fun i => ∃ k : Nat, k ≤ l.length ∧ i = .int .i64 k ∧ Hid (∀ j, j < k → eqI (l.getD j 0) x = false)) (fun i => l.length - (intOf i).toNat)
  case atStart => exact ⟨0, by omega, rfl, by intro j hj; omega⟩
  case round =>
    obtain ⟨k, hk, rfl, hinv⟩ := hrel
    by_cases hkl : k < l.length
    · have hkc : (k : Int) < (l.length : Int) := by omega
      obtain ⟨b', o, rfl, c0⟩ := hr k hkl
      have hC := hC (l.getD k 0)
      cases he : eqI (l.getD k 0) x
      · have hn : Hid (∀ j, j < k + 1 → eqI (l.getD j 0) x = false) := by
          intro j hj
          rcases Nat.lt_or_ge j k with h1 | h1
          · exact hinv.out j h1
          · obtain rfl : j = k := by omega
            exact he
        rw [he] at hC
        generalize l.getD k 0 = y at *
        clear he
        go_wp2_with (go_at_call 64; refine hC.mono ?_; rintro e w1 ⟨rfl, rfl⟩)
        go_round
        case rel => exact ⟨k + 1, by omega, by go_num, hn⟩
        case measure => simp [intOf]; omega
      · have HR : Hid (idx l x = (k : Nat)) := by
          show idx l x = _
          unfold idx
          rw [amB_yes hkl he, if_pos rfl, take_all2 (p := fun c => !eqI c x) l k hkl (fun j hj => by simp only [hinv.out j hj]; rfl) (by simp only [he]; rfl)]
        rw [he] at hC
        generalize l.getD k 0 = y at *
        clear he
        go_wp2_with (go_at_call 64; refine hC.mono ?_; rintro e w1 ⟨rfl, rfl⟩)
        go_ret
        exact ⟨by rw [HR.out]; rfl, rfl⟩
    · have hkc : ¬ (k : Int) < (l.length : Int) := by omega
      have HR : Hid (idx l x = -1) := by
        show idx l x = _
        unfold idx
        rw [amB_no (fun i hi => hinv.out i (by omega))]; rfl
      go_wp2_with fail
      go_ret
      exact ⟨by rw [HR.out]; rfl, rfl⟩
theorem ContainsFunc_any (a : Option Addr) (c : Nat) (l : List Int) (b x : Nat) (w : World) (hl : l.length ≤ 17592186044416) (hr : RdI w a l) (h : w.cell? ⟨b, 0, none⟩ = some (.float .f64 x)) :
    Calls Try.prog 63 #[.slice a l.length c, .func (.func 64) #[] #[.pointer (some ⟨b, 0, none⟩)]] w fun e w' => e = .returned (.bool (amB l x)) ∧ w' = w := by
  have hI := IndexFunc_any a c l b x w hl hr h
  have HR : Hid (decide (0 ≤ idx l x) = amB l x) := by
    show _ = _
    unfold idx
    cases amB l x
    · rfl
    · simp
  generalize idx l x = i at *
  go_enter Try.func63, Try.ntmps63
  go_wp2_with (go_at_call 80; refine hI.mono ?_; rintro e w1 ⟨rfl, rfl⟩)
  go_ret
  exact ⟨ret_bool HR.out, rfl⟩
theorem isAmong_any (a : Option Addr) (c : Nat) (l : List Int) (x : Nat) (w : World) (hl : l.length ≤ 17592186044416) (hr : RdI w a l) :
    Calls Try.prog 42 #[.slice a l.length c, .float .f64 x] w fun e w' => e = .returned (.bool (amB l x)) ∧ Keep w w' := by
  have k0 : Keep w (w.alloc (Obj.cells #[Value.float FloatKind.f64 x] 34)) := (Keep.refl w).alloc _
  have hI := ContainsFunc_any a c l w.heap.size x (w.alloc (Obj.cells #[Value.float FloatKind.f64 x] 34)) hl (hr.keep k0) (by rw [cell_of_row _ _ 0 _ 34 (0, 0) (heap_alloc_new w _)]; rfl)
  go_enter Try.func42, Try.ntmps42
  go_wp2_with (go_at_call 63; refine hI.mono ?_; rintro e w1 ⟨rfl, rfl⟩)
  go_ret
  exact ⟨rfl, k0⟩
end Go.Proofs.Ytaogjiffnebnkaa
