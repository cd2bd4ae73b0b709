import Derived.Test.YtaogjiffnebnkaaP4
import Derived.BigQuiet
set_option linter.unusedVariables false
set_option linter.unusedSimpArgs false
namespace Go.Proofs.Ytaogjiffnebnkaa
open Go.RowKit Go.Shelf
attribute [local go_sem] run_store_float
/-- A list of cuts as a value. -/
def lst (F : Int) (na : Option Addr) (nl nc : Nat) (ca : Option Addr) (cl cc : Nat) (la : Option Addr) (ll lc : Nat) : Value := .agg #[.int .i64 F, .slice na nl nc, .slice ca cl cc, .slice la ll lc]
def gtB (x y : Nat) : Bool := FloatKind.f64.format.order x y == some .gt
/-- How many cuts stand ahead of the first one that is not below. -/
def fst (L : List Ct) (x : Nat) : Nat := (L.takeWhile (fun c => gtB x c.th)).length
theorem fst_le (L : List Ct) (x : Nat) : fst L x ≤ L.length := by
  unfold fst
  exact (List.takeWhile_prefix _).length_le
theorem take_all {p : Ct → Bool} : ∀ (L : List Ct) (k : Nat), k ≤ L.length → (∀ j, j < k → p (L.getD j cd0) = true) → (k < L.length → p (L.getD k cd0) = false) → (L.takeWhile p).length = k
  | [], k, hk, _, _ => by simp at hk; simp [hk]
  | c :: L, 0, _, _, h => by
    have := h (by simp)
    simp only [List.getD_cons_zero] at this
    rw [List.takeWhile_cons, this]; rfl
  | c :: L, k + 1, hk, h1, h2 => by
    have h0 := h1 0 (by omega)
    simp only [List.getD_cons_zero] at h0
    rw [List.takeWhile_cons, h0]
    have ih := take_all L k (by simpa using hk) (fun j hj => by have := h1 (j + 1) (by omega); simpa using this) (fun hj => by have := h2 (by simpa using hj); simpa using this)
    simp [ih]
set_option maxRecDepth 100000 in
set_option maxHeartbeats 1000000 in
theorem First_any (F : Int) (na : Option Addr) (L : List Ct) (nc : Nat) (ca : Option Addr) (cl cc : Nat) (la : Option Addr) (ll lc : Nat) (x : Nat) (w : World) (hLn : L.length ≤ 1048576) (hr : RdC w na L) :
    Calls Try.prog 15 #[lst F na L.length nc ca cl cc la ll lc, .float .f64 x] w fun e w' => e = .returned (.int .i64 (fst L x : Nat)) ∧ Keep w w' := by
  unfold lst
  have k0 : Keep w (w.alloc (Obj.cells #[Value.int IntKind.i64 F, Value.slice na L.length nc, Value.slice ca cl cc, Value.slice la ll lc] 33)) := (Keep.refl w).alloc _
  have hr' := hr.keep k0
  go_enter Try.func15, Try.ntmps15
  go_wp2_with fail
  go_loop [9] (fun i => ∃ k : Nat, k ≤ L.length ∧ i = .int .i64 k ∧ Hid (∀ j, j < k → gtB x (L.getD j cd0).th = true)) (fun i => L.length - (intOf i).toNat)
  case atStart => exact ⟨0, by omega, rfl, by intro j hj; omega⟩
  case round =>
    obtain ⟨k, hk, rfl, hinv⟩ := hrel
    by_cases hkl : k < L.length
    · have hkc : (k : Int) < (L.length : Int) := by omega
      obtain ⟨b, o, ca', cp', rfl, hc⟩ := hr' k hkl
      have c0 := hc.c0
      clear hc
      cases he : gtB x (L.getD k cd0).th
      · have HR : Hid (fst L x = k) := take_all L k hk hinv.out (fun _ => he)
        have he' : (FloatKind.f64.format.order x (L.getD k cd0).th == some .gt) = false := he
        generalize (L.getD k cd0).th = y at *
        clear hinv he
        go_wp2_with fail
        go_ret
        exact ⟨by rw [HR.out]; rfl, k0⟩
      · have he' : (FloatKind.f64.format.order x (L.getD k cd0).th == some .gt) = true := he
        have hn : Hid (∀ j, j < k + 1 → gtB x (L.getD j cd0).th = true) := by
          intro j hj
          rcases Nat.lt_or_ge j k with h1 | h1
          · exact hinv.out j h1
          · obtain rfl : j = k := by omega
            exact he
        generalize (L.getD k cd0).th = y at *
        clear he
        go_wp2_with fail
        go_round
        case rel => exact ⟨k + 1, by omega, by go_num, hn⟩
        case measure => simp [intOf]; omega
    · have hkc : ¬ (k : Int) < (L.length : Int) := by omega
      have HR : Hid (fst L x = L.length) := by
        have e : k = L.length := by omega
        have := take_all (p := fun c => gtB x c.th) L k hk hinv.out (fun h => absurd h hkl)
        exact this.trans e
      go_wp2_with fail
      go_ret
      exact ⟨by rw [HR.out]; rfl, k0⟩
set_option maxRecDepth 100000 in
set_option maxHeartbeats 1000000 in
theorem rFirst_any (F : Int) (na : Option Addr) (L : List Ct) (nc : Nat) (ca : Option Addr) (cl cc : Nat) (la : Option Addr) (ll lc : Nat) (x : Nat) (w : World) (hLn : L.length ≤ 1048576) (hr : RdC w na L) :
    Calls Try.prog 16 #[lst F na L.length nc ca cl cc la ll lc, .float .f64 x] w fun e w' => e = .returned (.int .i64 (fst L x : Nat)) ∧ Keep w w' := by
  unfold lst
  have k0 : Keep w (w.alloc (Obj.cells #[Value.int IntKind.i64 F, Value.slice na L.length nc, Value.slice ca cl cc, Value.slice la ll lc] 33)) := (Keep.refl w).alloc _
  have hr' := hr.keep k0
  go_enter Try.func16, Try.ntmps16
  go_wp2_with fail
  go_loop [5] (fun i => ∃ k : Nat, k ≤ L.length ∧ i = .int .i64 k ∧ Hid (∀ j, j < k → gtB x (L.getD j cd0).th = true)) (fun i => L.length - (intOf i).toNat)
  case atStart => exact ⟨0, by omega, rfl, by intro j hj; omega⟩
  case round =>
    obtain ⟨k, hk, rfl, hinv⟩ := hrel
    by_cases hkl : k < L.length
    · have hkc : (k : Int) < (L.length : Int) := by omega
      have hgd : decide ((k : Int) < (L.length : Int)) = true := decide_eq_true hkc
      obtain ⟨b, o, ca', cp', rfl, hc⟩ := hr' k hkl
      have c0 := hc.c0
      clear hc
      cases he : gtB x (L.getD k cd0).th
      · have HR : Hid (fst L x = k) := take_all L k hk hinv.out (fun _ => he)
        have he' : (FloatKind.f64.format.order x (L.getD k cd0).th == some .gt) = false := he
        generalize (L.getD k cd0).th = y at *
        clear hinv he
        go_wp2_with fail
        go_ret
        exact ⟨by rw [HR.out]; rfl, k0⟩
      · have he' : (FloatKind.f64.format.order x (L.getD k cd0).th == some .gt) = true := he
        have hn : Hid (∀ j, j < k + 1 → gtB x (L.getD j cd0).th = true) := by
          intro j hj
          rcases Nat.lt_or_ge j k with h1 | h1
          · exact hinv.out j h1
          · obtain rfl : j = k := by omega
            exact he
        generalize (L.getD k cd0).th = y at *
        clear he
        go_wp2_with fail
        go_round
        case rel => exact ⟨k + 1, by omega, by go_num, hn⟩
        case measure => simp [intOf]; omega
    · have hkc : ¬ (k : Int) < (L.length : Int) := by omega
      have hgd : decide ((k : Int) < (L.length : Int)) = false := decide_eq_false hkc
      have HR : Hid (fst L x = k) := take_all (p := fun c => gtB x c.th) L k hk hinv.out (fun h => absurd h hkl)
      go_wp2_with fail
      go_ret
      exact ⟨by rw [HR.out]; rfl, k0⟩
end Go.Proofs.Ytaogjiffnebnkaa
