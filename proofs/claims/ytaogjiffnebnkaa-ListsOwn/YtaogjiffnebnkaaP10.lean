import Derived.Test.YtaogjiffnebnkaaX3
import Derived.Deep.RegionHeld3
import Derived.Test.YtaogjiffnebnkaaFl
import Derived.BigQuiet
set_option linter.unusedVariables false
set_option linter.unusedSimpArgs false
namespace Go.Proofs.Ytaogjiffnebnkaa
open Go.RowKit Go.Shelf
/-- Is the number one of these? -/
def eqI (c : Int) (x : Nat) : Bool := FloatKind.f64.format.order (floatOfInt FloatKind.f64 c) x == some .eq
def amB (l : List Int) (x : Nat) : Bool := l.any (fun c => eqI c x)
theorem amB_yes {l : List Int} {x k : Nat} (hk : k < l.length) (h : eqI (l.getD k 0) x = true) : amB l x = true := by
  refine List.any_eq_true.2 ⟨l[k], List.getElem_mem hk, ?_⟩
  have : l.getD k 0 = l[k] := by simp [List.getD, hk]
  rw [← this]; exact h
theorem amB_no {l : List Int} {x : Nat} (h : ∀ i, i < l.length → eqI (l.getD i 0) x = false) : amB l x = false := by
  unfold amB
  rw [List.any_eq_false]
  intro c hc
  obtain ⟨i, hi, rfl⟩ := List.getElem_of_mem hc
  have : l.getD i 0 = l[i] := by simp [List.getD, hi]
  have := h i hi
  simp_all
theorem isAmong1_any (c : Int) (b : Nat) (x : Nat) (w : World) (h : w.cell? ⟨b, 0, none⟩ = some (.float .f64 x)) :
    Calls Try.prog 64 #[.int .i64 c, .pointer (some ⟨b, 0, none⟩)] w fun e w' => e = .returned (.bool (eqI c x)) ∧ w' = w := by
  have HR : Hid (eqI c x = (FloatKind.f64.format.order (floatOfInt FloatKind.f64 c) x == some .eq)) := rfl
  go_enter Try.func64, Try.ntmps64
  go_wp2_with fail
  go_ret
  exact ⟨ret_bool HR.out.symm, rfl⟩
/-- The first place. -/
def idx (l : List Int) (x : Nat) : Int := if amB l x then ((l.takeWhile (fun c => !eqI c x)).length : Nat) else -1
theorem take_all2 {p : Int → Bool} : ∀ (L : List Int) (k : Nat), k < L.length → (∀ j, j < k → p (L.getD j 0) = true) → p (L.getD k 0) = false → (L.takeWhile p).length = k
  | [], k, hk, _, _ => by simp at hk
  | c :: L, 0, _, _, h => by
    simp only [List.getD_cons_zero] at h
    rw [List.takeWhile_cons, h]; rfl
  | c :: L, k + 1, hk, h1, h2 => by
    have h0 := h1 0 (by omega)
    simp only [List.getD_cons_zero] at h0
    rw [List.takeWhile_cons, h0]
    have ih := take_all2 L k (by simpa using hk) (fun j hj => by have := h1 (j + 1) (by omega); simpa using this) (by simpa using h2)
    simp [ih]
set_option maxRecDepth 100000 in
set_option maxHeartbeats 1000000 in
theorem IndexFunc_any (a : Option Addr) (c : Nat) (l : List Int) (b x : Nat) (w : World) (hl : l.length ≤ 17592186044416) (hr : RdI w a l) (h : w.cell? ⟨b, 0, none⟩ = some (.float .f64 x)) :
    Calls Try.prog 80 #[.slice a l.length c, .func (.func 64) #[] #[.pointer (some ⟨b, 0, none⟩)]] w fun e w' => e = .returned (.int .i64 (idx l x)) ∧ w' = w := by
  have hC := fun (c : Int) => isAmong1_any c b x w h
  go_enter Try.func80, Try.ntmps80
  go_wp2_with fail
  go_loop [8] (fun i => ∃ k : Nat, k ≤ l.length ∧ i = .int .i64 k ∧ Hid (∀ j, j < k → eqI (l.getD j 0) x = false)) (fun i => l.length - (intOf i).toNat)
  case atStart => exact ⟨0, by omega, rfl, by intro j hj; omega⟩
  case round =>
    obtain ⟨k, hk, rfl, hinv⟩ := hrel
    by_cases hkl : k < l.length
    · have hkc : (k : Int) < (l.length : Int) := by omega
      obtain ⟨b', o, rfl, c0⟩ := hr k hkl
      have hC := hC (l.getD k 0)
      cases he : eqI (l.getD k 0) x
      · have hn : Hid (∀ j, j < k + 1 → eqI (l.getD j 0) x = false) := by
          intro j hj
          rcases Nat.lt_or_ge j k with h1 | h1
          · exact hinv.out j h1
          · obtain rfl : j = k := by omega
            exact he
        rw [he] at hC
        generalize l.getD k 0 = y at *
        clear he
        go_wp2_with (go_at_call 64; refine hC.mono ?_; rintro e w1 ⟨rfl, rfl⟩)
        go_round
        case rel => exact ⟨k + 1, by omega, by go_num, hn⟩
        case measure => simp [intOf]; omega
      · have HR : Hid (idx l x = (k : Nat)) := by
          show idx l x = _
          unfold idx
          rw [amB_yes hkl he, if_pos rfl, take_all2 (p := fun c => !eqI c x) l k hkl (fun j hj => by simp only [hinv.out j hj]; rfl) (by simp only [he]; rfl)]
        rw [he] at hC
        generalize l.getD k 0 = y at *
        clear he
        go_wp2_with (go_at_call 64; refine hC.mono ?_; rintro e w1 ⟨rfl, rfl⟩)
        go_ret
        exact ⟨by rw [HR.out]; rfl, rfl⟩
    · have hkc : ¬ (k : Int) < (l.length : Int) := by omega
      have HR : Hid (idx l x = -1) := by
        show idx l x = _
        unfold idx
        rw [amB_no (fun i hi => hinv.out i (by omega))]; rfl
      go_wp2_with fail
      go_ret
      exact ⟨by rw [HR.out]; rfl, rfl⟩
theorem ContainsFunc_any (a : Option Addr) (c : Nat) (l : List Int) (b x : Nat) (w : World) (hl : l.length ≤ 17592186044416) (hr : RdI w a l) (h : w.cell? ⟨b, 0, none⟩ = some (.float .f64 x)) :
    Calls Try.prog 63 #[.slice a l.length c, .func (.func 64) #[] #[.pointer (some ⟨b, 0, none⟩)]] w fun e w' => e = .returned (.bool (amB l x)) ∧ w' = w := by
  have hI := IndexFunc_any a c l b x w hl hr h
  have HR : Hid (decide (0 ≤ idx l x) = amB l x) := by
    show _ = _
    unfold idx
    cases amB l x
    · rfl
    · simp
  generalize idx l x = i at *
  go_enter Try.func63, Try.ntmps63
  go_wp2_with (go_at_call 80; refine hI.mono ?_; rintro e w1 ⟨rfl, rfl⟩)
  go_ret
  exact ⟨ret_bool HR.out, rfl⟩
theorem isAmong_any (a : Option Addr) (c : Nat) (l : List Int) (x : Nat) (w : World) (hl : l.length ≤ 17592186044416) (hr : RdI w a l) :
    Calls Try.prog 42 #[.slice a l.length c, .float .f64 x] w fun e w' => e = .returned (.bool (amB l x)) ∧ Keep w w' := by
  have k0 : Keep w (w.alloc (Obj.cells #[Value.float FloatKind.f64 x] 34)) := (Keep.refl w).alloc _
  have hI := ContainsFunc_any a c l w.heap.size x (w.alloc (Obj.cells #[Value.float FloatKind.f64 x] 34)) hl (hr.keep k0) (by rw [cell_of_row _ _ 0 _ 34 (0, 0) (heap_alloc_new w _)]; rfl)
  go_enter Try.func42, Try.ntmps42
  go_wp2_with (go_at_call 63; refine hI.mono ?_; rintro e w1 ⟨rfl, rfl⟩)
  go_ret
  exact ⟨rfl, k0⟩
end Go.Proofs.Ytaogjiffnebnkaa
set_option linter.unusedVariables false
set_option linter.unusedSimpArgs false
namespace Go.Proofs.Ytaogjiffnebnkaa
open Go.RowKit Go.Shelf
theorem mk5 {a0 a1 a2 a3 a4 : Prop} (h0 : a0) (h1 : a1) (h2 : a2) (h3 : a3) (h4 : a4) : a0 ∧ a1 ∧ a2 ∧ a3 ∧ a4 := ⟨h0, h1, h2, h3, h4⟩
end Go.Proofs.Ytaogjiffnebnkaa
set_option linter.unusedVariables false
set_option linter.unusedSimpArgs false
namespace Go.Proofs.Ytaogjiffnebnkaa
open Go.RowKit Go.Shelf
/-- Nodes as cells. -/
def UG : List (Nat × Nat × Nat) → List Value
  | [] => []
  | r :: L => .float .f64 r.1 :: .int .i64 (r.2.1 : Nat) :: .int .i64 (r.2.2 : Nat) :: UG L
abbrev gt0 : Nat × Nat × Nat := (0, 0, 0)
theorem UG_get : ∀ (K : List (Nat × Nat × Nat)) (j i : Nat), j < K.length → i < 3 → (UG K)[j * 3 + i]? = (UG [K.getD j gt0])[i]?
  | [], j, i, h, _ => by simp at h
  | r :: K, 0, i, _, hi => by
    simp only [Nat.zero_mul, Nat.zero_add, List.getD_cons_zero]
    match i, hi with
    | 0, _ => rfl
    | 1, _ => rfl
    | 2, _ => rfl
  | r :: K, j + 1, i, h, hi => by
    have := UG_get K j i (by simpa using h) hi
    rw [show (j + 1) * 3 + i = (j * 3 + i) + 1 + 1 + 1 by omega]
    simp only [UG, List.getElem?_cons_succ, List.getD_cons_succ]
    exact this
def OwnG (B : Nat) (w : World) (v : Value) (K : List (Nat × Nat × Nat)) : Prop := w.ownsRow B 44 3 v K.length (UG K)
theorem OwnG.nil (B : Nat) (w : World) : OwnG B w (.slice none 0 0) [] := ⟨rfl, .inl ⟨rfl, rfl⟩⟩
theorem OwnG.same {B : Nat} {w w' : World} {v : Value} {K : List (Nat × Nat × Nat)} (h : OwnG B w v K) (k : ∀ b, v.ownBlock = some b → w'.heap[b]? = w.heap[b]?) : OwnG B w' v K := by
  refine ⟨h.1, ?_⟩
  rcases h.2 with h2 | ⟨g, cap, cur, hv, hg, hh, r⟩
  · exact .inl h2
  · exact .inr ⟨g, cap, cur, hv, hg, by rw [k g (by rw [hv]; rfl)]; exact hh, r⟩
theorem OwnG.block {B : Nat} {w : World} {v : Value} {K : List (Nat × Nat × Nat)} (h : OwnG B w v K) {b : Nat} (hb : v.ownBlock = some b) : B ≤ b ∧ ∃ cur, w.heap[b]? = some (.cells cur 44 (0, 0)) := by
  rcases h.2 with ⟨h1, _⟩ | ⟨g, cap, cur, hv, hg, hh, r⟩
  · rw [h1] at hb; cases hb
  · rw [hv] at hb
    have hb : some g = some b := hb
    simp only [Option.some.injEq] at hb
    subst hb
    exact ⟨hg, cur, hh⟩
theorem OwnG.keep {B : Nat} {w w' : World} {v : Value} {K : List (Nat × Nat × Nat)} (h : OwnG B w v K) (k : Keep w w') : OwnG B w' v K :=
  h.same (fun b hb => by obtain ⟨_, cur, hh⟩ := h.block hb; exact k.block b (Array.getElem?_eq_some_iff.1 hh).1)
theorem OwnG.shape {B : Nat} {w : World} {v : Value} {K : List (Nat × Nat × Nat)} (h : OwnG B w v K) : ∃ a c, v = .slice a K.length c ∧ K.length ≤ c ∧ ∀ j, j < K.length → ∃ b, a = some ⟨b, 0, none⟩ ∧ ∀ i u, i < 3 → (UG [K.getD j gt0])[i]? = some u → w.cell? ⟨b, j * 3 + i, none⟩ = some u := by
  rcases h.2 with ⟨h1, h2⟩ | ⟨g, cap, cur, hv, hg, hh, h1, h2, h3, h4⟩
  · exact ⟨none, 0, by rw [h1, h2], by omega, fun j hj => by omega⟩
  · refine ⟨some ⟨g, 0, none⟩, cap, hv, h1, ?_⟩
    intro j hj
    refine ⟨g, rfl, ?_⟩
    intro i u hi hu
    have e1 : cur.toList[j * 3 + i]? = (UG K)[j * 3 + i]? := by rw [← h4, List.getElem?_take, if_pos (by omega)]
    rw [cell_of_row w g _ cur 44 (0, 0) hh, ← hu, ← UG_get K j i hj hi, ← e1]; simp
theorem UG_set : ∀ (K : List (Nat × Nat × Nat)) (k : Nat) (c : Nat), k < K.length → UG (K.set k ((K.getD k gt0).1, (K.getD k gt0).2.1, c)) = (UG K).set (k * 3 + 2) (.int .i64 (c : Nat))
  | [], k, c, h => by simp at h
  | r :: K, 0, c, _ => by simp [UG]
  | r :: K, k + 1, c, h => by
    have ih := UG_set K k c (by simpa using h)
    rw [show (k + 1) * 3 + 2 = (k * 3 + 2) + 1 + 1 + 1 by omega]
    simp only [List.set_cons_succ, UG, List.getD_cons_succ]
    rw [ih]
theorem OwnG.set {B : Nat} {w : World} {g m c : Nat} {K : List (Nat × Nat × Nat)} (h : OwnG B w (.slice (some ⟨g, 0, none⟩) m c) K) {k : Nat} (hk : k < K.length) (x : Nat) :
    OwnG B (w.setCell ⟨g, k * 3 + 2, none⟩ (.int .i64 (x : Nat))) (.slice (some ⟨g, 0, none⟩) m c) (K.set k ((K.getD k gt0).1, (K.getD k gt0).2.1, x)) ∧ w.frozen? ⟨g, k * 3 + 2, none⟩ = false ∧ w.cell? ⟨g, k * 3 + 2, none⟩ = some (.int .i64 ((K.getD k gt0).2.2 : Nat)) := by
  obtain ⟨a', c', e, hc, hr⟩ := h.shape
  simp only [Value.slice.injEq] at e
  obtain ⟨rfl, -, rfl⟩ := e
  obtain ⟨b, e, hu⟩ := hr k hk
  simp only [Option.some.injEq, Addr.mk.injEq, and_true] at e
  obtain rfl := e
  obtain ⟨h1, h2⟩ := h
  rcases h2 with ⟨h2, -⟩ | ⟨g', cap, cur, hv, hg, hh, r1, r2, r3, r4⟩
  · cases h2
  · simp only [Value.slice.injEq, Option.some.injEq, Addr.mk.injEq, and_true] at hv
    obtain ⟨rfl, rfl, rfl⟩ := hv
    have a1 := heap_setCell_same w g (k * 3 + 2) _ 44 (.int .i64 (x : Nat)) hh
    refine ⟨⟨?_, .inr ⟨g, c, _, by rw [List.length_set], hg, a1, by rw [List.length_set]; exact r1, r2, by simp [r3], ?_⟩⟩, frozen_of_row w _ _ _ 44 hh, hu 2 _ (by omega) rfl⟩
    · rw [UG_set K k x hk]; simp only [List.length_set]; exact h1
    · rw [UG_set K k x hk, List.length_set, ← r4]
      simp only [Array.set!_eq_setIfInBounds, Array.toList_setIfInBounds]
      rw [List.take_set]
end Go.Proofs.Ytaogjiffnebnkaa
set_option linter.unusedVariables false
set_option linter.unusedSimpArgs false
namespace Go.Proofs.Ytaogjiffnebnkaa
open Go.RowKit Go.Shelf
attribute [local go_sem] run_store_float
theorem OwnG.mono {B B' : Nat} {w : World} {v : Value} {l : List (Nat × Nat × Nat)} (h : OwnG B w v l) (hB : B' ≤ B) : OwnG B' w v l := by
  refine ⟨h.1, ?_⟩
  rcases h.2 with h2 | ⟨g, cap, cur, hv, hg, r⟩
  · exact .inl h2
  · exact .inr ⟨g, cap, cur, hv, Nat.le_trans hB hg, r⟩
end Go.Proofs.Ytaogjiffnebnkaa
set_option linter.unusedVariables false
set_option linter.unusedSimpArgs false
namespace Go.Proofs.Ytaogjiffnebnkaa
open Go.RowKit Go.Shelf
attribute [local go_sem] run_store_float
end Go.Proofs.Ytaogjiffnebnkaa
