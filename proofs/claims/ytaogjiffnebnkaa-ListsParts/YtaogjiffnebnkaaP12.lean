import Derived.Test.YtaogjiffnebnkaaP4
import Derived.BigQuiet
import Derived.Deep.RegionHeld3
import Derived.Test.YtaogjiffnebnkaaFl
set_option linter.unusedVariables false
set_option linter.unusedSimpArgs false
namespace Go.Proofs.Ytaogjiffnebnkaa
open Go.RowKit Go.Shelf
attribute [local go_sem] run_store_float
/-- A list of cuts as a value. -/
def lst (F : Int) (na : Option Addr) (nl nc : Nat) (ca : Option Addr) (cl cc : Nat) (la : Option Addr) (ll lc : Nat) : Value := .agg #[.int .i64 F, .slice na nl nc, .slice ca cl cc, .slice la ll lc]
def gtB (x y : Nat) : Bool := FloatKind.f64.format.order x y == some .gt
/-- How many cuts stand ahead of the first one that is not below. -/
def fst (L : List Ct) (x : Nat) : Nat := (L.takeWhile (fun c => gtB x c.th)).length
theorem take_all {p : Ct → Bool} : ∀ (L : List Ct) (k : Nat), k ≤ L.length → (∀ j, j < k → p (L.getD j cd0) = true) → (k < L.length → p (L.getD k cd0) = false) → (L.takeWhile p).length = k
  | [], k, hk, _, _ => by simp at hk; simp [hk]
  | c :: L, 0, _, _, h => by
    have := h (by simp)
    simp only [List.getD_cons_zero] at this
    rw [List.takeWhile_cons, this]; rfl
  | c :: L, k + 1, hk, h1, h2 => by
    have h0 := h1 0 (by omega)
    simp only [List.getD_cons_zero] at h0
    rw [List.takeWhile_cons, h0]
    have ih := take_all L k (by simpa using hk) (fun j hj => by have := h1 (j + 1) (by omega); simpa using this) (fun hj => by have := h2 (by simpa using hj); simpa using this)
    simp [ih]
set_option maxRecDepth 100000 in
set_option maxHeartbeats 1000000 in
theorem First_any (F : Int) (na : Option Addr) (L : List Ct) (nc : Nat) (ca : Option Addr) (cl cc : Nat) (la : Option Addr) (ll lc : Nat) (x : Nat) (w : World) (hLn : L.length ≤ 1048576) (hr : RdC w na L) :
    Calls Try.prog 15 #[lst F na L.length nc ca cl cc la ll lc, .float .f64 x] w fun e w' => e = .returned (.int .i64 (fst L x : Nat)) ∧ Keep w w' := by
  unfold lst
  have k0 : Keep w (w.alloc (Obj.cells #[Value.int IntKind.i64 F, Value.slice na L.length nc, Value.slice ca cl cc, Value.slice la ll lc] 33)) := (Keep.refl w).alloc _
  have hr' := hr.keep k0
  go_enter Try.func15, Try.ntmps15
  go_wp2_with fail
  go_loop [9] (fun i => ∃ k : Nat, k ≤ L.length ∧ i = .int .i64 k ∧ Hid (∀ j, j < k → gtB x (L.getD j cd0).th = true)) (fun i => L.length - (intOf i).toNat)
  case atStart => exact ⟨0, by omega, rfl, by intro j hj; omega⟩
  case round =>
    obtain ⟨k, hk, rfl, hinv⟩ := hrel
    by_cases hkl : k < L.length
    · have hkc : (k : Int) < (L.length : Int) := by omega
      obtain ⟨b, o, ca', cp', rfl, hc⟩ := hr' k hkl
      have c0 := hc.c0
      clear hc
      cases he : gtB x (L.getD k cd0).th
      · have HR : Hid (fst L x = k) := take_all L k hk hinv.out (fun _ => he)
        have he' : (FloatKind.f64.format.order x (L.getD k cd0).th == some .gt) = false := he
        generalize (L.getD k cd0).th = y at *
        clear hinv he
        go_wp2_with fail
        go_ret
        exact ⟨by rw [HR.out]; rfl, k0⟩
      · have he' : (FloatKind.f64.format.order x (L.getD k cd0).th == some .gt) = true := he
        have hn : Hid (∀ j, j < k + 1 → gtB x (L.getD j cd0).th = true) := by
          intro j hj
          rcases Nat.lt_or_ge j k with h1 | h1
          · exact hinv.out j h1
          · obtain rfl : j = k := by omega
            exact he
        generalize (L.getD k cd0).th = y at *
        clear he
        go_wp2_with fail
        go_round
        case rel => exact ⟨k + 1, by omega, by go_num, hn⟩
        case measure => simp [intOf]; omega
    · have hkc : ¬ (k : Int) < (L.length : Int) := by omega
      have HR : Hid (fst L x = L.length) := by
        have e : k = L.length := by omega
        have := take_all (p := fun c => gtB x c.th) L k hk hinv.out (fun h => absurd h hkl)
        exact this.trans e
      go_wp2_with fail
      go_ret
      exact ⟨by rw [HR.out]; rfl, k0⟩
end Go.Proofs.Ytaogjiffnebnkaa
set_option linter.unusedVariables false
set_option linter.unusedSimpArgs false
namespace Go.Proofs.Ytaogjiffnebnkaa
open Go.RowKit Go.Shelf
end Go.Proofs.Ytaogjiffnebnkaa
set_option linter.unusedVariables false
set_option linter.unusedSimpArgs false
namespace Go.Proofs.Ytaogjiffnebnkaa
open Go.RowKit Go.Shelf
end Go.Proofs.Ytaogjiffnebnkaa
set_option linter.unusedVariables false
set_option linter.unusedSimpArgs false
namespace Go.Proofs.Ytaogjiffnebnkaa
open Go.RowKit Go.Shelf
/-- Nodes as cells. -/
def UG : List (Nat × Nat × Nat) → List Value
  | [] => []
  | r :: L => .float .f64 r.1 :: .int .i64 (r.2.1 : Nat) :: .int .i64 (r.2.2 : Nat) :: UG L
abbrev gt0 : Nat × Nat × Nat := (0, 0, 0)
theorem UG_get : ∀ (K : List (Nat × Nat × Nat)) (j i : Nat), j < K.length → i < 3 → (UG K)[j * 3 + i]? = (UG [K.getD j gt0])[i]?
  | [], j, i, h, _ => by simp at h
  | r :: K, 0, i, _, hi => by
    simp only [Nat.zero_mul, Nat.zero_add, List.getD_cons_zero]
    match i, hi with
    | 0, _ => rfl
    | 1, _ => rfl
    | 2, _ => rfl
  | r :: K, j + 1, i, h, hi => by
    have := UG_get K j i (by simpa using h) hi
    rw [show (j + 1) * 3 + i = (j * 3 + i) + 1 + 1 + 1 by omega]
    simp only [UG, List.getElem?_cons_succ, List.getD_cons_succ]
    exact this
def OwnG (B : Nat) (w : World) (v : Value) (K : List (Nat × Nat × Nat)) : Prop := w.ownsRow B 44 3 v K.length (UG K)
theorem OwnG.nil (B : Nat) (w : World) : OwnG B w (.slice none 0 0) [] := ⟨rfl, .inl ⟨rfl, rfl⟩⟩
theorem OwnG.same {B : Nat} {w w' : World} {v : Value} {K : List (Nat × Nat × Nat)} (h : OwnG B w v K) (k : ∀ b, v.ownBlock = some b → w'.heap[b]? = w.heap[b]?) : OwnG B w' v K := by
  refine ⟨h.1, ?_⟩
  rcases h.2 with h2 | ⟨g, cap, cur, hv, hg, hh, r⟩
  · exact .inl h2
  · exact .inr ⟨g, cap, cur, hv, hg, by rw [k g (by rw [hv]; rfl)]; exact hh, r⟩
theorem OwnG.block {B : Nat} {w : World} {v : Value} {K : List (Nat × Nat × Nat)} (h : OwnG B w v K) {b : Nat} (hb : v.ownBlock = some b) : B ≤ b ∧ ∃ cur, w.heap[b]? = some (.cells cur 44 (0, 0)) := by
  rcases h.2 with ⟨h1, _⟩ | ⟨g, cap, cur, hv, hg, hh, r⟩
  · rw [h1] at hb; cases hb
  · rw [hv] at hb
    have hb : some g = some b := hb
    simp only [Option.some.injEq] at hb
    subst hb
    exact ⟨hg, cur, hh⟩
theorem OwnG.keep {B : Nat} {w w' : World} {v : Value} {K : List (Nat × Nat × Nat)} (h : OwnG B w v K) (k : Keep w w') : OwnG B w' v K :=
  h.same (fun b hb => by obtain ⟨_, cur, hh⟩ := h.block hb; exact k.block b (Array.getElem?_eq_some_iff.1 hh).1)
theorem OwnG.shape {B : Nat} {w : World} {v : Value} {K : List (Nat × Nat × Nat)} (h : OwnG B w v K) : ∃ a c, v = .slice a K.length c ∧ K.length ≤ c ∧ ∀ j, j < K.length → ∃ b, a = some ⟨b, 0, none⟩ ∧ ∀ i u, i < 3 → (UG [K.getD j gt0])[i]? = some u → w.cell? ⟨b, j * 3 + i, none⟩ = some u := by
  rcases h.2 with ⟨h1, h2⟩ | ⟨g, cap, cur, hv, hg, hh, h1, h2, h3, h4⟩
  · exact ⟨none, 0, by rw [h1, h2], by omega, fun j hj => by omega⟩
  · refine ⟨some ⟨g, 0, none⟩, cap, hv, h1, ?_⟩
    intro j hj
    refine ⟨g, rfl, ?_⟩
    intro i u hi hu
    have e1 : cur.toList[j * 3 + i]? = (UG K)[j * 3 + i]? := by rw [← h4, List.getElem?_take, if_pos (by omega)]
    rw [cell_of_row w g _ cur 44 (0, 0) hh, ← hu, ← UG_get K j i hj hi, ← e1]; simp
theorem UG_set : ∀ (K : List (Nat × Nat × Nat)) (k : Nat) (c : Nat), k < K.length → UG (K.set k ((K.getD k gt0).1, (K.getD k gt0).2.1, c)) = (UG K).set (k * 3 + 2) (.int .i64 (c : Nat))
  | [], k, c, h => by simp at h
  | r :: K, 0, c, _ => by simp [UG]
  | r :: K, k + 1, c, h => by
    have ih := UG_set K k c (by simpa using h)
    rw [show (k + 1) * 3 + 2 = (k * 3 + 2) + 1 + 1 + 1 by omega]
    simp only [List.set_cons_succ, UG, List.getD_cons_succ]
    rw [ih]
theorem OwnG.set {B : Nat} {w : World} {g m c : Nat} {K : List (Nat × Nat × Nat)} (h : OwnG B w (.slice (some ⟨g, 0, none⟩) m c) K) {k : Nat} (hk : k < K.length) (x : Nat) :
    OwnG B (w.setCell ⟨g, k * 3 + 2, none⟩ (.int .i64 (x : Nat))) (.slice (some ⟨g, 0, none⟩) m c) (K.set k ((K.getD k gt0).1, (K.getD k gt0).2.1, x)) ∧ w.frozen? ⟨g, k * 3 + 2, none⟩ = false ∧ w.cell? ⟨g, k * 3 + 2, none⟩ = some (.int .i64 ((K.getD k gt0).2.2 : Nat)) := by
  obtain ⟨a', c', e, hc, hr⟩ := h.shape
  simp only [Value.slice.injEq] at e
  obtain ⟨rfl, -, rfl⟩ := e
  obtain ⟨b, e, hu⟩ := hr k hk
  simp only [Option.some.injEq, Addr.mk.injEq, and_true] at e
  obtain rfl := e
  obtain ⟨h1, h2⟩ := h
  rcases h2 with ⟨h2, -⟩ | ⟨g', cap, cur, hv, hg, hh, r1, r2, r3, r4⟩
  · cases h2
  · simp only [Value.slice.injEq, Option.some.injEq, Addr.mk.injEq, and_true] at hv
    obtain ⟨rfl, rfl, rfl⟩ := hv
    have a1 := heap_setCell_same w g (k * 3 + 2) _ 44 (.int .i64 (x : Nat)) hh
    refine ⟨⟨?_, .inr ⟨g, c, _, by rw [List.length_set], hg, a1, by rw [List.length_set]; exact r1, r2, by simp [r3], ?_⟩⟩, frozen_of_row w _ _ _ 44 hh, hu 2 _ (by omega) rfl⟩
    · rw [UG_set K k x hk]; simp only [List.length_set]; exact h1
    · rw [UG_set K k x hk, List.length_set, ← r4]
      simp only [Array.set!_eq_setIfInBounds, Array.toList_setIfInBounds]
      rw [List.take_set]
end Go.Proofs.Ytaogjiffnebnkaa
set_option linter.unusedVariables false
set_option linter.unusedSimpArgs false
namespace Go.Proofs.Ytaogjiffnebnkaa
open Go.RowKit Go.Shelf
attribute [local go_sem] run_store_float
theorem OwnG.mono {B B' : Nat} {w : World} {v : Value} {l : List (Nat × Nat × Nat)} (h : OwnG B w v l) (hB : B' ≤ B) : OwnG B' w v l := by
  refine ⟨h.1, ?_⟩
  rcases h.2 with h2 | ⟨g, cap, cur, hv, hg, r⟩
  · exact .inl h2
  · exact .inr ⟨g, cap, cur, hv, Nat.le_trans hB hg, r⟩
end Go.Proofs.Ytaogjiffnebnkaa
set_option linter.unusedVariables false
set_option linter.unusedSimpArgs false
namespace Go.Proofs.Ytaogjiffnebnkaa
open Go.RowKit Go.Shelf
attribute [local go_sem] run_store_float
end Go.Proofs.Ytaogjiffnebnkaa
set_option linter.unusedVariables false
set_option linter.unusedSimpArgs false
namespace Go.Proofs.Ytaogjiffnebnkaa
open Go.RowKit Go.Shelf
end Go.Proofs.Ytaogjiffnebnkaa
set_option linter.unusedVariables false
set_option linter.unusedSimpArgs false
namespace Go.Proofs.Ytaogjiffnebnkaa
open Go.RowKit Go.Shelf
end Go.Proofs.Ytaogjiffnebnkaa
