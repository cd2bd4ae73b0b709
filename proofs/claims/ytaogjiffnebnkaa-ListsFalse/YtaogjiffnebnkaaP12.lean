import Derived.Test.YtaogjiffnebnkaaP4
import Derived.BigQuiet
import Derived.Deep.RegionHeld3
import Derived.Test.YtaogjiffnebnkaaFl
set_option linter.unusedVariables false
set_option linter.unusedSimpArgs false
namespace Go.Proofs.Ytaogjiffnebnkaa
open Go.RowKit Go.Shelf
attribute [local go_sem] run_store_float
/-- A list of cuts as a value. -/
def lst (F : Int) (na : Option Addr) (nl nc : Nat) (ca : Option Addr) (cl cc : Nat) (la : Option Addr) (ll lc : Nat) : Value := .agg #[.int .i64 F, .slice na nl nc, .slice ca cl cc, .slice la ll lc]
def gtB (x y : Nat) : Bool := FloatKind.f64.format.order x y == some .gt
/-- How many cuts stand ahead of the first one that is not below. -/
def fst (L : List Ct) (x : Nat) : Nat := (L.takeWhile (fun c => gtB x c.th)).length
theorem fst_le (L : List Ct) (x : Nat) : fst L x ≤ L.length := by
  unfold fst
  exact (List.takeWhile_prefix _).length_le
theorem take_all {p : Ct → Bool} : ∀ (L : List Ct) (k : Nat), k ≤ L.length → (∀ j, j < k → p (L.getD j cd0) = true) → (k < L.length → p (L.getD k cd0) = false) → (L.takeWhile p).length = k
  | [], k, hk, _, _ => by simp at hk; simp [hk]
  | c :: L, 0, _, _, h => by
    have := h (by simp)
    simp only [List.getD_cons_zero] at this
    rw [List.takeWhile_cons, this]; rfl
  | c :: L, k + 1, hk, h1, h2 => by
    have h0 := h1 0 (by omega)
    simp only [List.getD_cons_zero] at h0
    rw [List.takeWhile_cons, h0]
    have ih := take_all L k (by simpa using hk) (fun j hj => by have := h1 (j + 1) (by omega); simpa using this) (fun hj => by have := h2 (by simpa using hj); simpa using this)
    simp [ih]
set_option maxRecDepth 100000 in
set_option maxHeartbeats 1000000 in
theorem First_any (F : Int) (na : Option Addr) (L : List Ct) (nc : Nat) (ca : Option Addr) (cl cc : Nat) (la : Option Addr) (ll lc : Nat) (x : Nat) (w : World) (hLn : L.length ≤ 1048576) (hr : RdC w na L) :
    Calls Try.prog 15 #[lst F na L.length nc ca cl cc la ll lc, .float .f64 x] w fun e w' => e = .returned (.int .i64 (fst L x : Nat)) ∧ Keep w w' := by
  unfold lst
  have k0 : Keep w (w.alloc (Obj.cells #[Value.int IntKind.i64 F, Value.slice na L.length nc, Value.slice ca cl cc, Value.slice la ll lc] 33)) := (Keep.refl w).alloc _
  have hr' := hr.keep k0
  go_enter Try.func15, Try.ntmps15
  go_wp2_with fail
  go_loop [9] (fun i => ∃ k : Nat, k ≤ L.length ∧ i = .int .i64 k ∧ Hid (∀ j, j < k → gtB x (L.getD j cd0).th = true)) (fun i => L.length - (intOf i).toNat)
  case atStart => exact ⟨0, by omega, rfl, by intro j hj; omega⟩
  case round =>
    obtain ⟨k, hk, rfl, hinv⟩ := hrel
    by_cases hkl : k < L.length
    · have hkc : (k : Int) < (L.length : Int) := by omega
      obtain ⟨b, o, ca', cp', rfl, hc⟩ := hr' k hkl
      have c0 := hc.c0
      clear hc
      cases he : gtB x (L.getD k cd0).th
      · have HR : Hid (fst L x = k) := take_all L k hk hinv.out (fun _ => he)
        have he' : (FloatKind.f64.format.order x (L.getD k cd0).th == some .gt) = false := he
        generalize (L.getD k cd0).th = y at *
        clear hinv he
        go_wp2_with fail
        go_ret
        exact ⟨by rw [HR.out]; rfl, k0⟩
      · have he' : (FloatKind.f64.format.order x (L.getD k cd0).th == some .gt) = true := he
        have hn : Hid (∀ j, j < k + 1 → gtB x (L.getD j cd0).th = true) := by
          intro j hj
          rcases Nat.lt_or_ge j k with h1 | h1
          · exact hinv.out j h1
          · obtain rfl : j = k := by omega
            exact he
        generalize (L.getD k cd0).th = y at *
        clear he
        go_wp2_with fail
        go_round
        case rel => exact ⟨k + 1, by omega, by go_num, hn⟩
        case measure => simp [intOf]; omega
    · have hkc : ¬ (k : Int) < (L.length : Int) := by omega
      have HR : Hid (fst L x = L.length) := by
        have e : k = L.length := by omega
        have := take_all (p := fun c => gtB x c.th) L k hk hinv.out (fun h => absurd h hkl)
        exact this.trans e
      go_wp2_with fail
      go_ret
      exact ⟨by rw [HR.out]; rfl, k0⟩
end Go.Proofs.Ytaogjiffnebnkaa
set_option linter.unusedVariables false
set_option linter.unusedSimpArgs false
namespace Go.Proofs.Ytaogjiffnebnkaa
open Go.RowKit Go.Shelf
/-- Is the number one of these? -/
def eqI (c : Int) (x : Nat) : Bool := FloatKind.f64.format.order (floatOfInt FloatKind.f64 c) x == some .eq
def amB (l : List Int) (x : Nat) : Bool := l.any (fun c => eqI c x)
theorem amB_yes {l : List Int} {x k : Nat} (hk : k < l.length) (h : eqI (l.getD k 0) x = true) : amB l x = true := by
  refine List.any_eq_true.2 ⟨l[k], List.getElem_mem hk, ?_⟩
  have : l.getD k 0 = l[k] := by simp [List.getD, hk]
  rw [← this]; exact h
theorem amB_no {l : List Int} {x : Nat} (h : ∀ i, i < l.length → eqI (l.getD i 0) x = false) : amB l x = false := by
  unfold amB
  rw [List.any_eq_false]
  intro c hc
  obtain ⟨i, hi, rfl⟩ := List.getElem_of_mem hc
  have : l.getD i 0 = l[i] := by simp [List.getD, hi]
  have := h i hi
  simp_all
theorem isAmong1_any (c : Int) (b : Nat) (x : Nat) (w : World) (h : w.cell? ⟨b, 0, none⟩ = some (.float .f64 x)) :
    Calls Try.prog 64 #[.int .i64 c, .pointer (some ⟨b, 0, none⟩)] w fun e w' => e = .returned (.bool (eqI c x)) ∧ w' = w := by
  have HR : Hid (eqI c x = (FloatKind.f64.format.order (floatOfInt FloatKind.f64 c) x == some .eq)) := rfl
  go_enter Try.func64, Try.ntmps64
  go_wp2_with fail
  go_ret
  exact ⟨ret_bool HR.out.symm, rfl⟩
/-- The first place. -/
def idx (l : List Int) (x : Nat) : Int := if amB l x then ((l.takeWhile (fun c => !eqI c x)).length : Nat) else -1
theorem take_all2 {p : Int → Bool} : ∀ (L : List Int) (k : Nat), k < L.length → (∀ j, j < k → p (L.getD j 0) = true) → p (L.getD k 0) = false → (L.takeWhile p).length = k
  | [], k, hk, _, _ => by simp at hk
  | c :: L, 0, _, _, h => by
    simp only [List.getD_cons_zero] at h
    rw [List.takeWhile_cons, h]; rfl
  | c :: L, k + 1, hk, h1, h2 => by
    have h0 := h1 0 (by omega)
    simp only [List.getD_cons_zero] at h0
    rw [List.takeWhile_cons, h0]
    have ih := take_all2 L k (by simpa using hk) (fun j hj => by have := h1 (j + 1) (by omega); simpa using this) (by simpa using h2)
    simp [ih]
set_option maxRecDepth 100000 in
set_option maxHeartbeats 1000000 in
theorem IndexFunc_any (a : Option Addr) (c : Nat) (l : List Int) (b x : Nat) (w : World) (hl : l.length ≤ 17592186044416) (hr : RdI w a l) (h : w.cell? ⟨b, 0, none⟩ = some (.float .f64 x)) :
    Calls Try.prog 80 #[.slice a l.length c, .func (.func 64) #[] #[.pointer (some ⟨b, 0, none⟩)]] w fun e w' => e = .returned (.int .i64 (idx l x)) ∧ w' = w := by
  have hC := fun (c : Int) => isAmong1_any c b x w h
  go_enter Try.func80, Try.ntmps80
  go_wp2_with fail
  go_loop [8] (fun i => ∃ k : Nat, k ≤ l.length ∧ i = .int .i64 k ∧ Hid (∀ j, j < k → eqI (l.getD j 0) x = false)) (fun i => l.length - (intOf i).toNat)
  case atStart => exact ⟨0, by omega, rfl, by intro j hj; omega⟩
  case round =>
    obtain ⟨k, hk, rfl, hinv⟩ := hrel
    by_cases hkl : k < l.length
    · have hkc : (k : Int) < (l.length : Int) := by omega
      obtain ⟨b', o, rfl, c0⟩ := hr k hkl
      have hC := hC (l.getD k 0)
      cases he : eqI (l.getD k 0) x
      · have hn : Hid (∀ j, j < k + 1 → eqI (l.getD j 0) x = false) := by
          intro j hj
          rcases Nat.lt_or_ge j k with h1 | h1
          · exact hinv.out j h1
          · obtain rfl : j = k := by omega
            exact he
        rw [he] at hC
        generalize l.getD k 0 = y at *
        clear he
        go_wp2_with (go_at_call 64; refine hC.mono ?_; rintro e w1 ⟨rfl, rfl⟩)
        go_round
        case rel => exact ⟨k + 1, by omega, by go_num, hn⟩
        case measure => simp [intOf]; omega
      · have HR : Hid (idx l x = (k : Nat)) := by
          show idx l x = _
          unfold idx
          rw [amB_yes hkl he, if_pos rfl, take_all2 (p := fun c => !eqI c x) l k hkl (fun j hj => by simp only [hinv.out j hj]; rfl) (by simp only [he]; rfl)]
        rw [he] at hC
        generalize l.getD k 0 = y at *
        clear he
        go_wp2_with (go_at_call 64; refine hC.mono ?_; rintro e w1 ⟨rfl, rfl⟩)
        go_ret
        exact ⟨by rw [HR.out]; rfl, rfl⟩
    · have hkc : ¬ (k : Int) < (l.length : Int) := by omega
      have HR : Hid (idx l x = -1) := by
        show idx l x = _
        unfold idx
        rw [amB_no (fun i hi => hinv.out i (by omega))]; rfl
      go_wp2_with fail
      go_ret
      exact ⟨by rw [HR.out]; rfl, rfl⟩
theorem ContainsFunc_any (a : Option Addr) (c : Nat) (l : List Int) (b x : Nat) (w : World) (hl : l.length ≤ 17592186044416) (hr : RdI w a l) (h : w.cell? ⟨b, 0, none⟩ = some (.float .f64 x)) :
    Calls Try.prog 63 #[.slice a l.length c, .func (.func 64) #[] #[.pointer (some ⟨b, 0, none⟩)]] w fun e w' => e = .returned (.bool (amB l x)) ∧ w' = w := by
  have hI := IndexFunc_any a c l b x w hl hr h
  have HR : Hid (decide (0 ≤ idx l x) = amB l x) := by
    show _ = _
    unfold idx
    cases amB l x
    · rfl
    · simp
  generalize idx l x = i at *
  go_enter Try.func63, Try.ntmps63
  go_wp2_with (go_at_call 80; refine hI.mono ?_; rintro e w1 ⟨rfl, rfl⟩)
  go_ret
  exact ⟨ret_bool HR.out, rfl⟩
theorem isAmong_any (a : Option Addr) (c : Nat) (l : List Int) (x : Nat) (w : World) (hl : l.length ≤ 17592186044416) (hr : RdI w a l) :
    Calls Try.prog 42 #[.slice a l.length c, .float .f64 x] w fun e w' => e = .returned (.bool (amB l x)) ∧ Keep w w' := by
  have k0 : Keep w (w.alloc (Obj.cells #[Value.float FloatKind.f64 x] 34)) := (Keep.refl w).alloc _
  have hI := ContainsFunc_any a c l w.heap.size x (w.alloc (Obj.cells #[Value.float FloatKind.f64 x] 34)) hl (hr.keep k0) (by rw [cell_of_row _ _ 0 _ 34 (0, 0) (heap_alloc_new w _)]; rfl)
  go_enter Try.func42, Try.ntmps42
  go_wp2_with (go_at_call 63; refine hI.mono ?_; rintro e w1 ⟨rfl, rfl⟩)
  go_ret
  exact ⟨rfl, k0⟩
end Go.Proofs.Ytaogjiffnebnkaa
set_option linter.unusedVariables false
set_option linter.unusedSimpArgs false
namespace Go.Proofs.Ytaogjiffnebnkaa
open Go.RowKit Go.Shelf
theorem mk5 {a0 a1 a2 a3 a4 : Prop} (h0 : a0) (h1 : a1) (h2 : a2) (h3 : a3) (h4 : a4) : a0 ∧ a1 ∧ a2 ∧ a3 ∧ a4 := ⟨h0, h1, h2, h3, h4⟩
end Go.Proofs.Ytaogjiffnebnkaa
set_option linter.unusedVariables false
set_option linter.unusedSimpArgs false
namespace Go.Proofs.Ytaogjiffnebnkaa
open Go.RowKit Go.Shelf
/-- Nodes as cells. -/
def UG : List (Nat × Nat × Nat) → List Value
  | [] => []
  | r :: L => .float .f64 r.1 :: .int .i64 (r.2.1 : Nat) :: .int .i64 (r.2.2 : Nat) :: UG L
abbrev gt0 : Nat × Nat × Nat := (0, 0, 0)
theorem UG_get : ∀ (K : List (Nat × Nat × Nat)) (j i : Nat), j < K.length → i < 3 → (UG K)[j * 3 + i]? = (UG [K.getD j gt0])[i]?
  | [], j, i, h, _ => by simp at h
  | r :: K, 0, i, _, hi => by
    simp only [Nat.zero_mul, Nat.zero_add, List.getD_cons_zero]
    match i, hi with
    | 0, _ => rfl
    | 1, _ => rfl
    | 2, _ => rfl
  | r :: K, j + 1, i, h, hi => by
    have := UG_get K j i (by simpa using h) hi
    rw [show (j + 1) * 3 + i = (j * 3 + i) + 1 + 1 + 1 by omega]
    simp only [UG, List.getElem?_cons_succ, List.getD_cons_succ]
    exact this
def OwnG (B : Nat) (w : World) (v : Value) (K : List (Nat × Nat × Nat)) : Prop := w.ownsRow B 44 3 v K.length (UG K)
theorem OwnG.nil (B : Nat) (w : World) : OwnG B w (.slice none 0 0) [] := ⟨rfl, .inl ⟨rfl, rfl⟩⟩
theorem OwnG.same {B : Nat} {w w' : World} {v : Value} {K : List (Nat × Nat × Nat)} (h : OwnG B w v K) (k : ∀ b, v.ownBlock = some b → w'.heap[b]? = w.heap[b]?) : OwnG B w' v K := by
  refine ⟨h.1, ?_⟩
  rcases h.2 with h2 | ⟨g, cap, cur, hv, hg, hh, r⟩
  · exact .inl h2
  · exact .inr ⟨g, cap, cur, hv, hg, by rw [k g (by rw [hv]; rfl)]; exact hh, r⟩
theorem OwnG.block {B : Nat} {w : World} {v : Value} {K : List (Nat × Nat × Nat)} (h : OwnG B w v K) {b : Nat} (hb : v.ownBlock = some b) : B ≤ b ∧ ∃ cur, w.heap[b]? = some (.cells cur 44 (0, 0)) := by
  rcases h.2 with ⟨h1, _⟩ | ⟨g, cap, cur, hv, hg, hh, r⟩
  · rw [h1] at hb; cases hb
  · rw [hv] at hb
    have hb : some g = some b := hb
    simp only [Option.some.injEq] at hb
    subst hb
    exact ⟨hg, cur, hh⟩
theorem OwnG.keep {B : Nat} {w w' : World} {v : Value} {K : List (Nat × Nat × Nat)} (h : OwnG B w v K) (k : Keep w w') : OwnG B w' v K :=
  h.same (fun b hb => by obtain ⟨_, cur, hh⟩ := h.block hb; exact k.block b (Array.getElem?_eq_some_iff.1 hh).1)
theorem OwnG.shape {B : Nat} {w : World} {v : Value} {K : List (Nat × Nat × Nat)} (h : OwnG B w v K) : ∃ a c, v = .slice a K.length c ∧ K.length ≤ c ∧ ∀ j, j < K.length → ∃ b, a = some ⟨b, 0, none⟩ ∧ ∀ i u, i < 3 → (UG [K.getD j gt0])[i]? = some u → w.cell? ⟨b, j * 3 + i, none⟩ = some u := by
  rcases h.2 with ⟨h1, h2⟩ | ⟨g, cap, cur, hv, hg, hh, h1, h2, h3, h4⟩
  · exact ⟨none, 0, by rw [h1, h2], by omega, fun j hj => by omega⟩
  · refine ⟨some ⟨g, 0, none⟩, cap, hv, h1, ?_⟩
    intro j hj
    refine ⟨g, rfl, ?_⟩
    intro i u hi hu
    have e1 : cur.toList[j * 3 + i]? = (UG K)[j * 3 + i]? := by rw [← h4, List.getElem?_take, if_pos (by omega)]
    rw [cell_of_row w g _ cur 44 (0, 0) hh, ← hu, ← UG_get K j i hj hi, ← e1]; simp
theorem UG_set : ∀ (K : List (Nat × Nat × Nat)) (k : Nat) (c : Nat), k < K.length → UG (K.set k ((K.getD k gt0).1, (K.getD k gt0).2.1, c)) = (UG K).set (k * 3 + 2) (.int .i64 (c : Nat))
  | [], k, c, h => by simp at h
  | r :: K, 0, c, _ => by simp [UG]
  | r :: K, k + 1, c, h => by
    have ih := UG_set K k c (by simpa using h)
    rw [show (k + 1) * 3 + 2 = (k * 3 + 2) + 1 + 1 + 1 by omega]
    simp only [List.set_cons_succ, UG, List.getD_cons_succ]
    rw [ih]
theorem OwnG.set {B : Nat} {w : World} {g m c : Nat} {K : List (Nat × Nat × Nat)} (h : OwnG B w (.slice (some ⟨g, 0, none⟩) m c) K) {k : Nat} (hk : k < K.length) (x : Nat) :
    OwnG B (w.setCell ⟨g, k * 3 + 2, none⟩ (.int .i64 (x : Nat))) (.slice (some ⟨g, 0, none⟩) m c) (K.set k ((K.getD k gt0).1, (K.getD k gt0).2.1, x)) ∧ w.frozen? ⟨g, k * 3 + 2, none⟩ = false ∧ w.cell? ⟨g, k * 3 + 2, none⟩ = some (.int .i64 ((K.getD k gt0).2.2 : Nat)) := by
  obtain ⟨a', c', e, hc, hr⟩ := h.shape
  simp only [Value.slice.injEq] at e
  obtain ⟨rfl, -, rfl⟩ := e
  obtain ⟨b, e, hu⟩ := hr k hk
  simp only [Option.some.injEq, Addr.mk.injEq, and_true] at e
  obtain rfl := e
  obtain ⟨h1, h2⟩ := h
  rcases h2 with ⟨h2, -⟩ | ⟨g', cap, cur, hv, hg, hh, r1, r2, r3, r4⟩
  · cases h2
  · simp only [Value.slice.injEq, Option.some.injEq, Addr.mk.injEq, and_true] at hv
    obtain ⟨rfl, rfl, rfl⟩ := hv
    have a1 := heap_setCell_same w g (k * 3 + 2) _ 44 (.int .i64 (x : Nat)) hh
    refine ⟨⟨?_, .inr ⟨g, c, _, by rw [List.length_set], hg, a1, by rw [List.length_set]; exact r1, r2, by simp [r3], ?_⟩⟩, frozen_of_row w _ _ _ 44 hh, hu 2 _ (by omega) rfl⟩
    · rw [UG_set K k x hk]; simp only [List.length_set]; exact h1
    · rw [UG_set K k x hk, List.length_set, ← r4]
      simp only [Array.set!_eq_setIfInBounds, Array.toList_setIfInBounds]
      rw [List.take_set]
end Go.Proofs.Ytaogjiffnebnkaa
set_option linter.unusedVariables false
set_option linter.unusedSimpArgs false
namespace Go.Proofs.Ytaogjiffnebnkaa
open Go.RowKit Go.Shelf
attribute [local go_sem] run_store_float
theorem OwnG.mono {B B' : Nat} {w : World} {v : Value} {l : List (Nat × Nat × Nat)} (h : OwnG B w v l) (hB : B' ≤ B) : OwnG B' w v l := by
  refine ⟨h.1, ?_⟩
  rcases h.2 with h2 | ⟨g, cap, cur, hv, hg, r⟩
  · exact .inl h2
  · exact .inr ⟨g, cap, cur, hv, Nat.le_trans hB hg, r⟩
end Go.Proofs.Ytaogjiffnebnkaa
set_option linter.unusedVariables false
set_option linter.unusedSimpArgs false
namespace Go.Proofs.Ytaogjiffnebnkaa
open Go.RowKit Go.Shelf
attribute [local go_sem] run_store_float
set_option maxRecDepth 100000 in
set_option maxHeartbeats 1000000 in
theorem First_big (F : Int) (na : Option Addr) (L : List Ct) (nc : Nat) (ca : Option Addr) (cl cc : Nat) (la : Option Addr) (ll lc : Nat) (x : Nat) (w : World) (hLn : L.length ≤ 268435456) (hr : RdC w na L) :
    Calls Try.prog 15 #[lst F na L.length nc ca cl cc la ll lc, .float .f64 x] w fun e w' => e = .returned (.int .i64 (fst L x : Nat)) ∧ Keep w w' := by
  unfold lst
  have k0 : Keep w (w.alloc (Obj.cells #[Value.int IntKind.i64 F, Value.slice na L.length nc, Value.slice ca cl cc, Value.slice la ll lc] 33)) := (Keep.refl w).alloc _
  have hr' := hr.keep k0
  go_enter Try.func15, Try.ntmps15
  go_wp2_with fail
  go_loop [9] (fun i => ∃ k : Nat, k ≤ L.length ∧ i = .int .i64 k ∧ Hid (∀ j, j < k → gtB x (L.getD j cd0).th = true)) (fun i => L.length - (intOf i).toNat)
  case atStart => exact ⟨0, by omega, rfl, by intro j hj; omega⟩
  case round =>
    obtain ⟨k, hk, rfl, hinv⟩ := hrel
    by_cases hkl : k < L.length
    · have hkc : (k : Int) < (L.length : Int) := by omega
      obtain ⟨b, o, ca', cp', rfl, hc⟩ := hr' k hkl
      have c0 := hc.c0
      clear hc
      cases he : gtB x (L.getD k cd0).th
      · have HR : Hid (fst L x = k) := take_all L k hk hinv.out (fun _ => he)
        have he' : (FloatKind.f64.format.order x (L.getD k cd0).th == some .gt) = false := he
        generalize (L.getD k cd0).th = y at *
        clear hinv he
        go_wp2_with fail
        go_ret
        exact ⟨by rw [HR.out]; rfl, k0⟩
      · have he' : (FloatKind.f64.format.order x (L.getD k cd0).th == some .gt) = true := he
        have hn : Hid (∀ j, j < k + 1 → gtB x (L.getD j cd0).th = true) := by
          intro j hj
          rcases Nat.lt_or_ge j k with h1 | h1
          · exact hinv.out j h1
          · obtain rfl : j = k := by omega
            exact he
        generalize (L.getD k cd0).th = y at *
        clear he
        go_wp2_with fail
        go_round
        case rel => exact ⟨k + 1, by omega, by go_num, hn⟩
        case measure => simp [intOf]; omega
    · have hkc : ¬ (k : Int) < (L.length : Int) := by omega
      have HR : Hid (fst L x = L.length) := by
        have e : k = L.length := by omega
        have := take_all (p := fun c => gtB x c.th) L k hk hinv.out (fun h => absurd h hkl)
        exact this.trans e
      go_wp2_with fail
      go_ret
      exact ⟨by rw [HR.out]; rfl, k0⟩
end Go.Proofs.Ytaogjiffnebnkaa
set_option linter.unusedVariables false
set_option linter.unusedSimpArgs false
namespace Go.Proofs.Ytaogjiffnebnkaa
open Go.RowKit Go.Shelf
attribute [local go_sem] run_store_float
end Go.Proofs.Ytaogjiffnebnkaa
set_option linter.unusedVariables false
set_option linter.unusedSimpArgs false
namespace Go.Proofs.Ytaogjiffnebnkaa
open Go.RowKit Go.Shelf
attribute [local go_sem] run_store_float
/-- The cuts that are false. -/
def chs (C : List Ct) (x : Nat) : List Ct := C.filter (fun c => !amB c.cs x)
def fls (L C O : List Ct) (x : Nat) : List Ct := if nanB x then O else L.take (fst L x) ++ chs C x
theorem OC.base {L : List Ct} {w w0 : World} {v : Value} {wr : World} {K : List (Ct × Option Addr × Nat)} (h : OC L w v wr K) (k : Keep w0 w) : OC L w0 v wr K := by
  refine ⟨h.eq, ?_, fun r hr => ⟨(h.cats r hr).1.mono k.le, (h.cats r hr).2⟩, k.trans h.kp⟩
  refine ⟨h.own.1, ?_⟩
  rcases h.own.2 with h2 | ⟨g, cap, cur, hv, hg, r⟩
  · exact .inl h2
  · exact .inr ⟨g, cap, cur, hv, Nat.le_trans k.le hg, r⟩
theorem RdC.take {w : World} {a : Option Addr} {L : List Ct} (h : RdC w a L) (n : Nat) : RdC w a (L.take n) := by
  intro j hj
  rw [List.length_take] at hj
  obtain ⟨b, o, ca, cap, e, hc⟩ := h j (by omega)
  have : (L.take n).getD j cd0 = L.getD j cd0 := by simp [List.getD, List.getElem?_take, show j < n by omega]
  rw [this]
  exact ⟨b, o, ca, cap, e, hc⟩
theorem chs_snoc {C : List Ct} {k : Nat} (hk : k < C.length) (x : Nat) : chs (C.take (k + 1)) x = if amB (C.getD k cd0).cs x then chs (C.take k) x else chs (C.take k) x ++ [C.getD k cd0] := by
  rw [take_snoc hk]
  generalize C.getD k cd0 = N
  unfold chs
  rw [List.filter_append]
  cases h : amB N.cs x <;> simp [h]
set_option maxRecDepth 100000 in
set_option maxHeartbeats 4000000 in
theorem False_any (F : Int) (na : Option Addr) (L : List Ct) (nc : Nat) (ca : Option Addr) (C : List Ct) (cc : Nat) (la : Option Addr) (O : List Ct) (lc : Nat) (x : Nat) (w : World) (hL : L.length ≤ 1048576) (hC : C.length ≤ 1048576) (hO : O.length ≤ 1048576) (hnc : L.length ≤ nc) (rn : RdC w na L) (rc : RdC w ca C) (rl : RdC w la O) :
    Calls Try.prog 20 #[lst F na L.length nc ca C.length cc la O.length lc, .float .f64 x] w fun e w' => ∃ v, e = .returned v ∧ ∃ K, OC (fls L C O x) w v w' K := by
  have hN := fun wx => IsNaN_any x wx
  have hF := fun (wx : World) (k : Keep w wx) => First_any F na L nc ca C.length cc la O.length lc x wx hL (rn.keep k)
  have hfl := fst_le L x
  have hCp := fun (wx : World) (k : Keep w wx) => copies_any na nc (L.take (fst L x)) wx (by rw [List.length_take]; omega) ((rn.keep k).take _)
  have hCl := fun (wx : World) (k : Keep w wx) => copies_any la lc O wx hO (rl.keep k)
  have htl : (L.take (fst L x)).length = fst L x := by rw [List.length_take]; omega
  rw [htl] at hCp
  unfold lst at hF ⊢
  obtain ⟨w1, hw1, k0, tb⟩ : ∃ w1, w.alloc (Obj.cells #[Value.int IntKind.i64 F, Value.slice na L.length nc, Value.slice ca C.length cc, Value.slice la O.length lc] 33) = w1 ∧ Keep w w1 ∧ w1.heap[w.heap.size]? = some (Obj.cells #[Value.int IntKind.i64 F, Value.slice na L.length nc, Value.slice ca C.length cc, Value.slice la O.length lc] 33 (0, 0)) := ⟨_, rfl, (Keep.refl w).alloc _, heap_alloc_new w _⟩
  have b0 := cell_of_row _ _ 0 _ 33 (0, 0) tb
  have b1 := cell_of_row _ _ 1 _ 33 (0, 0) tb
  have b2 := cell_of_row _ _ 2 _ 33 (0, 0) tb
  have b3 := cell_of_row _ _ 3 _ 33 (0, 0) tb
  simp only [List.getElem?_toArray, List.getElem?_cons_zero, List.getElem?_cons_succ] at b0 b1 b2 b3
  replace hw1 : Hid _ := hw1
  clear tb
  cases hn : nanB x
  · have HR : Hid (fls L C O x = L.take (fst L x) ++ chs C x) := by show _ = _; unfold fls; rw [hn]; rfl
    rw [hn] at hN
    generalize hf : fst L x = f at *
    have hfn : f ≤ nc := by omega
    generalize hTL : L.take f = TL at *
    go_enter Try.func20, Try.ntmps20
    go_wp2_with (go_at_call 39; rw [hw1.out]; refine (hN _).mono ?_; rintro e w2 ⟨rfl, hq⟩; rw [hq]; clear hq w2)
    have KD := (Keep.refl w1).drew
    have T0 := mk5 KD (KD.cell b0) (KD.cell b1) (KD.cell b2) (KD.cell b3)
    have hCp' := hCp
    clear hCl hN
    go_region_held3 (fun wx => Keep w1 wx ∧ wx.cell? ⟨w.heap.size, 0, none⟩ = some (Value.int IntKind.i64 F) ∧ wx.cell? ⟨w.heap.size, 1, none⟩ = some (Value.slice na L.length nc) ∧ wx.cell? ⟨w.heap.size, 2, none⟩ = some (Value.slice ca C.length cc) ∧ wx.cell? ⟨w.heap.size, 3, none⟩ = some (Value.slice la O.length lc)) (first | with_reducible exact T0 | with_reducible exact T2 | with_reducible exact T1) (first | (go_at_call 41; refine (hCp _ (k0.trans K1)).mono ?_; rintro e w3 ⟨v, rfl, K, hOC⟩; have K2 := K1.trans hOC.kp; have T2 := mk5 K2 (K2.cell b0) (K2.cell b1) (K2.cell b2) (K2.cell b3)) | (go_at_call 15; refine (hF _ (k0.trans KD)).mono ?_; rintro e w2 ⟨rfl, j1⟩; have K1 := KD.trans j1; have T1 := mk5 K1 (K1.cell b0) (K1.cell b1) (K1.cell b2) (K1.cell b3)))
    go_simp
    have hOC1 := hOC.base K1
    have b2' := K2.cell b2
    have hTn : TL.length ≤ 1048576 := by rw [htl]; omega
    clear T0 T1 T2 b0 b1 b2 b3 hCp hCp' hF hOC
    go_wp2_with fail
    go_loopw [5, 23] (fun v iv wr => ∃ (k : Nat) (K : List (Ct × Option Addr × Nat)), k ≤ C.length ∧ iv = .int .i64 k ∧ OC (TL ++ chs (C.take k) x) w1 v wr K) (fun _ iv _ => C.length - (intOf iv).toNat)
    case atStart => exact ⟨0, K, by omega, rfl, by simpa [chs] using hOC1⟩
    case round =>
      obtain ⟨k, K', hk, rfl, hI⟩ := hrel
      by_cases hkl : k < C.length
      · have hkc : (k : Int) < (C.length : Int) := by omega
        obtain ⟨b, o, ca', cp', rfl, hnd⟩ := (rc.keep (k0.trans hI.kp)) k hkl
        have hst := chs_snoc hkl x
        have hKl : K'.length + 1 ≤ 1099511627776 := by
          have h1 := hI.len
          have h2 : (chs (C.take k) x).length ≤ k := by
            unfold chs
            exact Nat.le_trans (List.length_filter_le _ _) (by rw [List.length_take]; omega)
          rw [List.length_append] at h1
          omega
        generalize C.getD k cd0 = N at *
        have c0 := hnd.c0
        have c1 := hnd.c1
        have c2 := hnd.c2
        have c3 := hnd.c3
        have c4 := hnd.c4
        obtain ⟨X1, hX1, kX, tX⟩ : ∃ X1, wr.alloc (Obj.cells #[Value.float FloatKind.f64 N.th, Value.slice ca' N.cs.length cp', Value.int IntKind.i64 N.tr, Value.int IntKind.i64 N.fr, Value.int IntKind.i64 N.to] 57) = X1 ∧ Keep wr X1 ∧ X1.heap[wr.heap.size]? = some (Obj.cells #[Value.float FloatKind.f64 N.th, Value.slice ca' N.cs.length cp', Value.int IntKind.i64 N.tr, Value.int IntKind.i64 N.fr, Value.int IntKind.i64 N.to] 57 (0, 0)) := ⟨_, rfl, (Keep.refl wr).alloc _, heap_alloc_new wr _⟩
        have hA := isAmong_any ca' cp' N.cs x X1 hnd.sz (hnd.rd.keep kX)
        have hCo := fun (wx : World) (k : Keep X1 wx) => copyOf_any N ca' cp' wx ((hnd.rd.keep kX).keep k) hnd.sz hnd.cp
        have y0 := cell_of_row _ _ 0 _ 57 (0, 0) tX
        have y1 := cell_of_row _ _ 1 _ 57 (0, 0) tX
        have y2 := cell_of_row _ _ 2 _ 57 (0, 0) tX
        have y3 := cell_of_row _ _ 3 _ 57 (0, 0) tX
        have y4 := cell_of_row _ _ 4 _ 57 (0, 0) tX
        simp only [List.getElem?_toArray, List.getElem?_cons_zero, List.getElem?_cons_succ] at y0 y1 y2 y3 y4
        have hsz := hnd.sz
        have hB4 := hI.kp.le
        unfold Ct.v at hCo
        replace hX1 : Hid _ := hX1
        clear hnd tX
        cases ham : amB N.cs x
        · rw [ham] at hA
          have HS : Hid (chs (C.take (k + 1)) x = chs (C.take k) x ++ [N]) := by show _ = _; rw [hst, ham]; rfl
          clear hst ham
          go_wp2_with (first | (go_at_call 42; rw [hX1.out]; refine hA.mono ?_; rintro e w2 ⟨rfl, k2⟩; have y0 := k2.cell y0; have y1 := k2.cell y1; have y2 := k2.cell y2; have y3 := k2.cell y3; have y4 := k2.cell y4) | (go_at_call 43; refine (hCo _ k2).mono ?_; rintro e w4 ⟨va, c4', rfl, hOv, hcc, k4⟩) | (at_builtin; refine wpList_appC w1.heap.size _ rfl _ _ rfl K' (N, va, c4') u5 ?_ (hI.own.keep ((kX.trans (k2.trans k4)).alloc _)) (Nat.le_trans hB4 ((kX.trans (k2.trans k4)).alloc _).le) ⟨w4.heap.size, 0, none⟩ 1 ?_ (newsC _ _ (by simp) N va c4') hKl ?_; rotate_left 2; intro v5 w5 hO5 g5 hv5))
          all_goals first
            | rfl
            | (go_roundw
               case rel =>
                 refine ⟨k + 1, K' ++ [(N, va, c4')], by omega, by go_num, ?_⟩
                 rw [HS.out, ← List.append_assoc]
                 exact hI.step ((kX.trans (k2.trans k4)).alloc _) hsz ((hOv.mono (Nat.le_trans hB4 (kX.trans k2).le)).keep ((Keep.refl w4).alloc _)) hO5 g5
               case measure => simp [intOf]; omega)
        · rw [ham] at hA
          have HS : Hid (chs (C.take (k + 1)) x = chs (C.take k) x) := by show _ = _; rw [hst, ham]; rfl
          clear hst ham
          go_wp2_with (go_at_call 42; rw [hX1.out]; refine hA.mono ?_; rintro e w2 ⟨rfl, k2⟩)
          go_roundw
          case rel => exact ⟨k + 1, K', by omega, by go_num, by rw [HS.out]; exact hI.keep (kX.trans k2)⟩
          case measure => simp [intOf]; omega
      · have hkc : ¬ (k : Int) < (C.length : Int) := by omega
        obtain rfl : k = C.length := by omega
        rw [List.take_length] at hI
        go_wp2_with fail
        go_ret
        exact ⟨_, rfl, K', by rw [HR.out]; exact hI.base k0⟩
  · have HR : Hid (fls L C O x = O) := by show _ = _; unfold fls; rw [hn]; rfl
    rw [hn] at hN
    go_enter Try.func20, Try.ntmps20
    go_wp2_with (first | (go_at_call 39; rw [hw1.out]; refine (hN _).mono ?_; rintro e w2 ⟨rfl, hq⟩; rw [hq]; clear hq w2) | (go_at_call 41; refine (hCl _ k0).mono ?_; rintro e w3 ⟨v, rfl, K, hOC⟩))
    go_ret
    exact ⟨_, rfl, K, by rw [HR.out]; exact hOC.base k0⟩
end Go.Proofs.Ytaogjiffnebnkaa
set_option linter.unusedVariables false
set_option linter.unusedSimpArgs false
namespace Go.Proofs.Ytaogjiffnebnkaa
open Go.RowKit Go.Shelf
end Go.Proofs.Ytaogjiffnebnkaa
set_option linter.unusedVariables false
set_option linter.unusedSimpArgs false
namespace Go.Proofs.Ytaogjiffnebnkaa
open Go.RowKit Go.Shelf
end Go.Proofs.Ytaogjiffnebnkaa
