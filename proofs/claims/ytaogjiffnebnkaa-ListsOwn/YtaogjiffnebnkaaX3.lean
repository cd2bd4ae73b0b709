import Derived.Test.YtaogjiffnebnkaaV9
import Derived.Test.YtaogjiffnebnkaaTS6
import Derived.Test.YtaogjiffnebnkaaTS9
import Derived.Test.YtaogjiffnebnkaaP4
import Derived.BigQuiet
import Derived.Test.YtaogjiffnebnkaaU3
set_option linter.unusedVariables false
set_option linter.unusedSimpArgs false
namespace Go.Proofs.Ytaogjiffnebnkaa
open Go.RowKit Go.Shelf Go.Maps
attribute [local go_sem] run_store_float
theorem ofE_small {ts : List (Int × List Nd)} {F : Int} (h : ofE ts F = 0) : ts.length ≤ 65536 ∧ ∀ j, j < ts.length → tkE (ts.getD j (0, [])).2 F = 0 := by
  unfold ofE at h
  by_cases q1 : F < 0 ∨ 65536 < F
  · rw [if_pos q1] at h; cases h
  · rw [if_neg q1] at h
    by_cases q2 : 65536 < ts.length
    · rw [if_pos q2] at h; cases h
    · rw [if_neg q2] at h
      exact ⟨by omega, firE_zero ts h⟩
theorem nodup_len : ∀ {a b : List Int}, a.Nodup → a ⊆ b → a.length ≤ b.length
  | [], b, _, _ => Nat.zero_le _
  | x :: a, b, hn, hs => by
    obtain ⟨h1, h2⟩ := List.nodup_cons.1 hn
    have hx : x ∈ b := hs List.mem_cons_self
    have h3 : a ⊆ b.erase x := by
      intro y hy
      refine (List.mem_erase_of_ne ?_).2 (hs (List.mem_cons_of_mem _ hy))
      intro e; rw [e] at hy; exact h1 hy
    have h4 := nodup_len h2 h3
    rw [List.length_erase_of_mem hx] at h4
    have h5 : 0 < b.length := List.length_pos_of_mem hx
    simp only [List.length_cons]
    omega
/-- What Of answers, as lists that can be read. -/
theorem of_rd {w w' : World} {v : Value} {ts : List (Int × List Nd)} {F : Int} (hE : ofE ts F = 0) {X : GX} {A : List Nat} {M : Nat → List CI} (hX : Con X (gall ts)) (hA : LsAt w w' v X A M) : ∃ a c, v = .slice a (A.map (lstP X M)).length c ∧ RdL w' a (A.map (lstP X M)) ∧ (A.map (lstP X M)).length ≤ 1099511627776 := by
  obtain ⟨h1, h2⟩ := ofE_small hE
  have hg := gall_len h2 ts.length (Nat.le_refl _)
  rw [List.take_length] at hg
  obtain ⟨hW, hl, hP, hm, hM, hv⟩ := hA
  have hrow : RowL w' v (A.map (item X)) := by
    rcases hv with ⟨e1, e2⟩ | ⟨g, c, cur, e1, -, -, e2, e3, -⟩
    · exact .inl ⟨e1, by rw [e2]; rfl⟩
    · exact .inr ⟨g, c, cur, by rw [List.length_map]; exact e1, e2, by rw [List.length_map]; exact e3⟩
  have hKl : ∀ i, i < X.n → ∀ j, j < 3 → ((X.wth M).K i j).length ≤ 1099511627776 := by
    intro i hi j hj
    have h3 : (X.K i j).length ≤ (gall ts).length := hX.len hi hj
    by_cases q : j = 0
    · subst q
      have e : ((X.wth M).K i 0).length = (X.K i 0).length := (hM i hi).2.len
      rw [e]; omega
    · have e : (X.wth M).K i j = X.K i j := by simp only [GX.wth]; rw [if_neg q]
      rw [e]; omega
  obtain ⟨a, c, e, r⟩ := hrow.rd (M := M) (fun i hi j hj => hW.row i ((hm i).1 hi) j hj) (fun i hi j hj => hW.cat i ((hm i).1 hi) j hj) (fun i hi => hKl i ((hm i).1 hi))
  have hXl : A.length ≤ (gall ts).length := by
    have hnd : (A.map X.f).Nodup := by
      show List.Pairwise _ _
      rw [List.pairwise_map]
      exact hP.imp fun h => by omega
    have hsub : A.map X.f ⊆ (gall ts).map fun s => s.1.ft := by
      intro φ hφ
      obtain ⟨i, hi, e⟩ := List.mem_map.1 hφ
      obtain ⟨s, hs, q⟩ := (hX.mem φ).2 ⟨i, (hm i).1 hi, e⟩
      exact List.mem_map.2 ⟨s, hs, q⟩
    have := nodup_len hnd hsub
    simpa using this
  exact ⟨a, c, by rw [List.length_map]; exact e, r, by rw [List.length_map]; omega⟩
end Go.Proofs.Ytaogjiffnebnkaa
set_option linter.unusedVariables false
set_option linter.unusedSimpArgs false
namespace Go.Proofs.Ytaogjiffnebnkaa
open Go.RowKit Go.Shelf Go.Maps
/-- The lists of what was gathered. -/
structure IsL (S : List (Nd × Ct)) (T : List Lst) : Prop where
  rise : T.Pairwise fun a b => a.ft < b.ft
  mem : ∀ φ, (∃ s ∈ S, s.1.ft = φ) ↔ ∃ t ∈ T, t.ft = φ
  cs : ∀ t ∈ T, t.cs = sel S t.ft 1
  ls : ∀ t ∈ T, t.ls = sel S t.ft 2
  ns : ∀ t ∈ T, srt kC t.ns ∧ eqv kC t.ns (sel S t.ft 0)
theorem isL_of {S : List (Nd × Ct)} {X : GX} {A : List Nat} {M : Nat → List CI} (hX : Con X S) (hA : A.Pairwise fun i j => X.f i < X.f j) (mA : ∀ i, i ∈ A ↔ i < X.n) (hM : ∀ i, i < X.n → srt Cu.kI (M i) ∧ eqv Cu.kI (M i) (X.K i 0)) : IsL S (A.map (lstP X M)) := by
  refine ⟨by rw [List.pairwise_map]; exact hA, fun φ => ?_, fun t ht => ?_, fun t ht => ?_, fun t ht => ?_⟩
  · rw [hX.mem φ]
    constructor
    · rintro ⟨i, hi, e⟩; exact ⟨_, List.mem_map.2 ⟨i, (mA i).2 hi, rfl⟩, e⟩
    · rintro ⟨t, ht, e⟩
      obtain ⟨i, hi, rfl⟩ := List.mem_map.1 ht
      exact ⟨i, (mA i).1 hi, e⟩
  · obtain ⟨i, hi, rfl⟩ := List.mem_map.1 ht
    exact hX.con i ((mA i).1 hi) 1 (by omega)
  · obtain ⟨i, hi, rfl⟩ := List.mem_map.1 ht
    exact hX.con i ((mA i).1 hi) 2 (by omega)
  · obtain ⟨i, hi, rfl⟩ := List.mem_map.1 ht
    obtain ⟨m1, m2⟩ := hM i ((mA i).1 hi)
    refine ⟨srt_fst m1, ?_⟩
    have := eqv_fst m2
    rw [hX.con i ((mA i).1 hi) 0 (by omega)] at this
    exact this
/-- What Of answers: lists that can be read. -/
theorem Of_rd (a : Option Addr) (cap : Nat) (ts : List (Int × List Nd)) (n : Nat) (hn : ts.length = n) (F : Int) (w : World) (ht : RdT w a ts) :
    Calls Try.prog 10 #[.slice a n cap, .int .i64 F] w fun e w' => ∃ a' c' T, e = .returned (.tuple #[.slice a' (T : List Lst).length c', .int .i64 (ofE ts F)]) ∧ Keep w w' ∧ RdL w' a' T ∧ T.length ≤ 1099511627776 ∧ (ofE ts F ≠ 0 → T = []) ∧ (ofE ts F = 0 → IsL (gall ts) T) := by
  subst hn
  refine (Of_any a cap ts F w ht).mono fun e w' h => ?_
  obtain ⟨v, rfl, k, h1, h2⟩ := h
  by_cases q : ofE ts F = 0
  · obtain ⟨X, A, M, hX, hA⟩ := h2 q
    obtain ⟨a', c', rfl, r, b⟩ := of_rd q hX hA
    exact ⟨a', c', A.map (lstP X M), rfl, k, r, b, fun e => absurd q e, fun _ => isL_of hX hA.2.2.1 hA.2.2.2.1 hA.2.2.2.2.1⟩
  · obtain rfl := h1 q
    exact ⟨none, 0, [], rfl, k, fun j hj => by simp at hj, by simp, fun _ => rfl, fun e => absurd e q⟩
/-- The tree that begins asks of. -/
def smpT : List Nd := [⟨2, 0, 1, 4611686018427387904, [], 2, 1, 2⟩, ⟨1, 10, 0, 0, [], 0, 0, 0⟩, ⟨1, 20, 0, 0, [], 0, 0, 0⟩]
def bsT : Mk.BT := .node 0 (.leaf 1) (.leaf 2)
theorem smpT_bt : Mk.Bt (Mk.shp (smpT.map Nd.m)) bsT 0 := .node (by decide) (.leaf (by decide)) (.leaf (by decide))
theorem smpT_trE : trE smpT = 0 := by kernel_rfl
theorem smpT_mkl : mkl smpT = [(0, 0, 1)] := by rw [mkl_of smpT_bt]; decide
def smpC : Ct := ⟨4611686018427387904, [], 0, 0, 1⟩
theorem smpT_gat : gat smpT 0 = [(⟨2, 0, 1, 4611686018427387904, [], 2, 1, 2⟩, smpC)] := by
  unfold gat
  rw [smpT_mkl]
  rfl
theorem smpT_gall : gall [(0, smpT)] = [(⟨2, 0, 1, 4611686018427387904, [], 2, 1, 2⟩, smpC)] := by
  have := gall_snoc [] (0, smpT)
  rw [List.nil_append] at this
  rw [this, show gall [] = [] from rfl, List.nil_append]
  exact smpT_gat
theorem smpT_tkE : tkE smpT 2 = 0 := by
  unfold tkE
  rw [if_neg (by simp [smpT_trE]), if_neg ?_]
  rintro ⟨m, hm, h⟩
  rw [smpT_mkl] at hm
  obtain rfl := List.mem_singleton.1 hm
  revert h
  decide
theorem smpT_ofE : ofE [(0, smpT)] 2 = 0 := by
  unfold ofE
  rw [if_neg (by decide), if_neg (by decide)]
  unfold firE
  rw [if_neg (by simp [smpT_tkE])]
  rfl
theorem smpT_isL {T : List Lst} (h : IsL (gall [(0, smpT)]) T) : T = [⟨1, [smpC], [], [smpC]⟩] := by
  rw [smpT_gall] at h
  have hm : ∀ t ∈ T, t.ft = 1 := by
    intro t ht
    obtain ⟨s, hs, e⟩ := (h.mem t.ft).2 ⟨t, ht, rfl⟩
    obtain rfl := List.mem_singleton.1 hs
    exact e.symm
  obtain ⟨t0, ht0, e0⟩ := (h.mem 1).1 ⟨_, List.mem_singleton.2 rfl, rfl⟩
  match T, h, hm, ht0 with
  | [], _, _, ht0 => cases ht0
  | t :: u :: r, h, hm, _ =>
    have h1 := (List.pairwise_cons.1 h.rise).1 u List.mem_cons_self
    have h2 := hm t List.mem_cons_self
    have h3 := hm u (List.mem_cons_of_mem _ List.mem_cons_self)
    omega
  | [t], h, hm, _ =>
    have f1 := hm t List.mem_cons_self
    have f2 := h.cs t List.mem_cons_self
    have f3 := h.ls t List.mem_cons_self
    obtain ⟨f4, f5⟩ := h.ns t List.mem_cons_self
    rw [f1] at f2 f3 f5
    have g0 : sel [(⟨2, 0, 1, 4611686018427387904, [], 2, 1, 2⟩, smpC)] 1 0 = [smpC] := rfl
    have g1 : sel [(⟨2, 0, 1, 4611686018427387904, [], 2, 1, 2⟩, smpC)] 1 1 = [] := rfl
    have g2 : sel [(⟨2, 0, 1, 4611686018427387904, [], 2, 1, 2⟩, smpC)] 1 2 = [smpC] := rfl
    rw [g0] at f5
    rw [g1] at f2
    rw [g2] at f3
    have f6 : t.ns = [smpC] := one f4 (by show List.Pairwise _ _; exact List.pairwise_singleton _ _) f5
    obtain ⟨a, b, c, d⟩ := t
    simp only at f1 f2 f3 f6
    rw [f1, f2, f3, f6]
end Go.Proofs.Ytaogjiffnebnkaa
set_option linter.unusedVariables false
set_option linter.unusedSimpArgs false
namespace Go.Proofs.Ytaogjiffnebnkaa
open Go.RowKit Go.Shelf
attribute [local go_sem] run_store_float
/-- A list of cuts as a value. -/
def lst (F : Int) (na : Option Addr) (nl nc : Nat) (ca : Option Addr) (cl cc : Nat) (la : Option Addr) (ll lc : Nat) : Value := .agg #[.int .i64 F, .slice na nl nc, .slice ca cl cc, .slice la ll lc]
def gtB (x y : Nat) : Bool := FloatKind.f64.format.order x y == some .gt
/-- How many cuts stand ahead of the first one that is not below. -/
def fst (L : List Ct) (x : Nat) : Nat := (L.takeWhile (fun c => gtB x c.th)).length
theorem fst_le (L : List Ct) (x : Nat) : fst L x ≤ L.length := by
  unfold fst
  exact (List.takeWhile_prefix _).length_le
theorem take_all {p : Ct → Bool} : ∀ (L : List Ct) (k : Nat), k ≤ L.length → (∀ j, j < k → p (L.getD j cd0) = true) → (k < L.length → p (L.getD k cd0) = false) → (L.takeWhile p).length = k
  | [], k, hk, _, _ => by simp at hk; simp [hk]
  | c :: L, 0, _, _, h => by
    have := h (by simp)
    simp only [List.getD_cons_zero] at this
    rw [List.takeWhile_cons, this]; rfl
  | c :: L, k + 1, hk, h1, h2 => by
    have h0 := h1 0 (by omega)
    simp only [List.getD_cons_zero] at h0
    rw [List.takeWhile_cons, h0]
    have ih := take_all L k (by simpa using hk) (fun j hj => by have := h1 (j + 1) (by omega); simpa using this) (fun hj => by have := h2 (by simpa using hj); simpa using this)
    simp [ih]
set_option maxRecDepth 100000 in
set_option maxHeartbeats 1000000 in
theorem First_any (F : Int) (na : Option Addr) (L : List Ct) (nc : Nat) (ca : Option Addr) (cl cc : Nat) (la : Option Addr) (ll lc : Nat) (x : Nat) (w : World) (hLn : L.length ≤ 1048576) (hr : RdC w na L) :
    Calls Try.prog 15 #[lst F na L.length nc ca cl cc la ll lc, .float .f64 x] w fun e w' => e = .returned (.int .i64 (fst L x : Nat)) ∧ Keep w w' := by
  unfold lst
  have k0 : Keep w (w.alloc (Obj.cells #[Value.int IntKind.i64 F, Value.slice na L.length nc, Value.slice ca cl cc, Value.slice la ll lc] 33)) := (Keep.refl w).alloc _
  have hr' := hr.keep k0
  go_enter Try.func15, Try.ntmps15
  go_wp2_with fail
  go_loop [9] (fun i => ∃ k : Nat, k ≤ L.length ∧ i = .int .i64 k ∧ Hid (∀ j, j < k → gtB x (L.getD j cd0).th = true)) (fun i => L.length - (intOf i).toNat)
  case atStart => exact ⟨0, by omega, rfl, by intro j hj; omega⟩
  case round =>
    obtain ⟨k, hk, rfl, hinv⟩ := hrel
    by_cases hkl : k < L.length
    · have hkc : (k : Int) < (L.length : Int) := by omega
      obtain ⟨b, o, ca', cp', rfl, hc⟩ := hr' k hkl
      have c0 := hc.c0
      clear hc
      cases he : gtB x (L.getD k cd0).th
      · have HR : Hid (fst L x = k) := take_all L k hk hinv.out (fun _ => he)
        have he' : (FloatKind.f64.format.order x (L.getD k cd0).th == some .gt) = false := he
        generalize (L.getD k cd0).th = y at *
        clear hinv he
        go_wp2_with fail
        go_ret
        exact ⟨by rw [HR.out]; rfl, k0⟩
      · have he' : (FloatKind.f64.format.order x (L.getD k cd0).th == some .gt) = true := he
        have hn : Hid (∀ j, j < k + 1 → gtB x (L.getD j cd0).th = true) := by
          intro j hj
          rcases Nat.lt_or_ge j k with h1 | h1
          · exact hinv.out j h1
          · obtain rfl : j = k := by omega
            exact he
        generalize (L.getD k cd0).th = y at *
        clear he
        go_wp2_with fail
        go_round
        case rel => exact ⟨k + 1, by omega, by go_num, hn⟩
        case measure => simp [intOf]; omega
    · have hkc : ¬ (k : Int) < (L.length : Int) := by omega
      have HR : Hid (fst L x = L.length) := by
        have e : k = L.length := by omega
        have := take_all (p := fun c => gtB x c.th) L k hk hinv.out (fun h => absurd h hkl)
        exact this.trans e
      go_wp2_with fail
      go_ret
      exact ⟨by rw [HR.out]; rfl, k0⟩
end Go.Proofs.Ytaogjiffnebnkaa
set_option linter.unusedVariables false
set_option linter.unusedSimpArgs false
namespace Go.Proofs.Ytaogjiffnebnkaa
open Go.RowKit Go.Shelf Go.Maps
attribute [local go_sem] run_store_float
abbrev smpA : Array Value := #[Value.int IntKind.u8 2, Value.int IntKind.i64 0, Value.int IntKind.i64 1, Value.float FloatKind.f64 4611686018427387904, Value.slice none 0 0, Value.int IntKind.u8 2, Value.int IntKind.i64 1, Value.int IntKind.i64 2, Value.int IntKind.u8 1, Value.int IntKind.i64 10, Value.int IntKind.i64 0, Value.float FloatKind.f64 0, Value.slice none 0 0, Value.int IntKind.u8 0, Value.int IntKind.i64 0, Value.int IntKind.i64 0, Value.int IntKind.u8 1, Value.int IntKind.i64 20, Value.int IntKind.i64 0, Value.float FloatKind.f64 0, Value.slice none 0 0, Value.int IntKind.u8 0, Value.int IntKind.i64 0, Value.int IntKind.i64 0]
theorem smpT_fit : ∀ d ∈ smpT, d.Fit := by
  intro d hd
  simp only [smpT, List.mem_cons, List.not_mem_nil, or_false] at hd
  rcases hd with rfl | rfl | rfl <;> exact ⟨by decide, by decide, by decide, by decide, by simp, by decide, by decide, by decide⟩
theorem smpT_rdN {w : World} {b : Nat} (h : w.heap[b]? = some (.cells smpA 83 (0, 0))) : RdN w (some ⟨b, 0, none⟩) smpT := by
  intro j hj
  have hf := smpT_fit (smpT.getD j nd0) (by
    have : smpT.getD j nd0 = smpT[j] := by simp [List.getD, hj]
    rw [this]; exact List.getElem_mem _)
  have c : ∀ i, w.cell? ⟨b, i, none⟩ = smpA[i]? := fun i => cell_of_row w b i _ 83 (0, 0) h
  have hj3 : j < 3 := hj
  refine ⟨b, 0, none, 0, rfl, ?_⟩
  rw [Nat.zero_add]
  rcases (by omega : j = 0 ∨ j = 1 ∨ j = 2) with rfl | rfl | rfl
  all_goals exact ⟨by rw [c]; rfl, by rw [c]; rfl, by rw [c]; rfl, by rw [c]; rfl, by rw [c]; rfl, by rw [c]; rfl, by rw [c]; rfl, by rw [c]; rfl, fun j hj => by simp [smpT] at hj, by simp [smpT], by simp [smpT], hf⟩
theorem smpT_rdT (w : World) : ∃ w3, ((w.alloc (Obj.cells smpA 83)).alloc (Obj.cells #[Value.int IntKind.i64 0, Value.slice (some ⟨w.heap.size, 0, none⟩) 3 3] 54)).alloc (Obj.cells #[Value.int IntKind.i64 0, Value.slice (some ⟨w.heap.size, 0, none⟩) 3 3] 54) = w3 ∧ Keep w w3 ∧ RdT w3 (some ⟨w.heap.size + 1 + 1, 0, none⟩) [(0, smpT)] := by
  have k1 : Keep w (w.alloc (Obj.cells smpA 83)) := (Keep.refl w).alloc _
  have k2 := k1.alloc (Obj.cells #[Value.int IntKind.i64 0, Value.slice (some ⟨w.heap.size, 0, none⟩) 3 3] 54)
  refine ⟨_, rfl, k2.alloc _, ?_⟩
  have r1 := smpT_rdN (heap_alloc_new w (Obj.cells smpA 83))
  have h3 := heap_alloc_new ((w.alloc (Obj.cells smpA 83)).alloc (Obj.cells #[Value.int IntKind.i64 0, Value.slice (some ⟨w.heap.size, 0, none⟩) 3 3] 54)) (Obj.cells #[Value.int IntKind.i64 0, Value.slice (some ⟨w.heap.size, 0, none⟩) 3 3] 54)
  rw [World.size_alloc, World.size_alloc] at h3
  intro j hj
  obtain rfl : j = 0 := by simp at hj; exact hj
  refine ⟨w.heap.size + 1 + 1, 0, some ⟨w.heap.size, 0, none⟩, 3, rfl, ?_, ?_, (r1.keep ((Keep.refl _).alloc _)).keep ((Keep.refl _).alloc _), by decide, by decide, by decide⟩
  · rw [cell_of_row _ _ _ _ 54 (0, 0) h3]; rfl
  · rw [cell_of_row _ _ _ _ 54 (0, 0) h3]; rfl
theorem smp_first : fst [smpC] 4613937818241073152 = 1 := by decide +kernel
set_option maxRecDepth 100000 in
set_option maxHeartbeats 2000000 in
theorem begins_any (w : World) : Calls Try.prog 25 #[] w fun e w' => e = .returned (.bool true) ∧ Keep w w' := by
  obtain ⟨w3, hw3, k3, hR⟩ := smpT_rdT w
  have hO := Of_rd (some ⟨w.heap.size + 1 + 1, 0, none⟩) 1 [(0, smpT)] 1 rfl 2 w3 hR
  rw [smpT_ofE] at hO
  clear hR
  go_enter Try.func25, Try.ntmps25
  go_wp2_with fail
  try rw [hw3]
  refine hO.mono ?_
  rintro e w4 ⟨a4, c4, T, rfl, k4, hL, -, -, hI⟩
  obtain rfl := smpT_isL (hI (by first | trivial | rfl))
  obtain ⟨b, o, na, nc, ca, cc, la, lc, rfl, c0, c1, c2, c3, r1, r2, r3, -⟩ := hL 0 (by simp)
  simp only [List.getD_cons_zero, Nat.zero_mul, Nat.add_zero, List.length_cons, List.length_nil, Nat.zero_add] at c0 c1 c2 c3 r1 r2 r3
  obtain ⟨b2, o2, ca2, cp2, rfl, h2⟩ := r1 0 (by simp)
  simp only [List.getD_cons_zero, Nat.zero_mul, Nat.add_zero] at h2
  have d0 := h2.c0
  have d4 := h2.c4
  have hF := First_any 1 (some ⟨b2, o2, none⟩) [smpC] nc ca 0 cc la 1 lc 4613937818241073152 w4 (by simp) r1
  rw [smp_first] at hF
  unfold lst at hF
  simp only [smpC, List.length_cons, List.length_nil, Nat.zero_add] at d0 d4 hF ⊢
  have kk : Hid (Keep w w4) := k3.trans k4
  clear hO hI hL r1 r2 r3 h2 hw3 k3 k4
  go_wp2_with (go_at_call 15; refine hF.mono ?_; rintro e w5 ⟨rfl, k5⟩)
  go_ret
  exact ⟨rfl, kk.out.trans k5⟩
end Go.Proofs.Ytaogjiffnebnkaa
set_option linter.unusedVariables false
set_option linter.unusedSimpArgs false
namespace Go.Proofs.Ytaogjiffnebnkaa
open Go.RowKit Go.Shelf Go.Maps
attribute [local go_sem] run_store_float
set_option maxRecDepth 100000 in
set_option maxHeartbeats 2000000 in
theorem CopiedB_any (a : Option Addr) (c : Nat) (L : List Ct) (w : World) (hLn : L.length ≤ 1099511627775) (ha : RdC w a L) :
    Calls Try.prog 14 #[.slice a L.length c] w fun e w' => ∃ v, e = .returned v ∧ ∃ K, OC L w v w' K := by
  go_enter Try.func14, Try.ntmps14
  go_wp2_with fail
  go_loopw [3, 4] (fun v iv wr => ∃ (k : Nat) (K : List (Ct × Option Addr × Nat)), k ≤ L.length ∧ iv = .int .i64 k ∧ OC (L.take k) w v wr K) (fun _ iv _ => L.length - (intOf iv).toNat)
  case atStart => exact ⟨0, [], by omega, rfl, OC.nil w⟩
  case round =>
    obtain ⟨k, K, hk, rfl, hI⟩ := hrel
    by_cases hkl : k < L.length
    · have hkc : (k : Int) < (L.length : Int) := by omega
      obtain ⟨b, o, ca, cp, rfl, hnd⟩ := (ha.keep hI.kp) k hkl
      have hst := take_snoc hkl
      have hKl : K.length + 1 ≤ 1099511627776 := by have := hI.len; rw [List.length_take] at this; omega
      generalize L.getD k cd0 = N at *
      have c0 := hnd.c0
      have c1 := hnd.c1
      have c2 := hnd.c2
      have c3 := hnd.c3
      have c4 := hnd.c4
      obtain ⟨X1, hX1, kX, sX, r0, r1⟩ := boxes2n wr #[Value.float FloatKind.f64 N.th, Value.slice ca N.cs.length cp, Value.int IntKind.i64 N.tr, Value.int IntKind.i64 N.fr, Value.int IntKind.i64 N.to] #[] 57 3
      have hrd := hnd.rd.keep kX
      have hsz := hnd.sz
      have hB4 := hI.kp.le
      have hz0 : wr.heap.size < X1.heap.size := (Array.getElem?_eq_some_iff.1 r0).1
      have oe : OwnZ 3 (wr.heap.size + 1) X1 (.slice (some ⟨wr.heap.size + 1, 0, none⟩) 0 0) [] := ⟨rfl, .inr ⟨wr.heap.size + 1, 0, #[], rfl, Nat.le_refl _, r1, Nat.le_refl _, by simp [maxLen], rfl, rfl⟩⟩
      have x1 := cell_of_row _ _ 1 _ 57 (0, 0) r0
      simp at x1
      rw [← hX1] at x1
      replace hX1 : Hid _ := hX1
      replace hst : Hid _ := hst
      replace r0 : Hid _ := r0
      clear hnd r1
      go_wp2_with (at_builtin; first | (rw [hX1.out] at x1 ⊢; refine wpList_copyE (wr.heap.size + 1) rfl _ _ rfl _ oe (by omega) N.cs ca cp ?_ ?_ hrd hsz ?_; rotate_left 2; intro vc w2 hO g2; have k2 : Keep X1 w2 ∨ True := .inr trivial; obtain ⟨va, cc, rfl, hcc, hrc⟩ := hO.shape; have hb2 := (g2.block wr.heap.size hz0 (by simp)).trans r0.out; have fz := frozen_of_row w2 _ 1 _ 57 hb2; have d0 := cell_of_row w2 _ 0 _ 57 (0, 0) hb2; have d1 := cell_of_row w2 _ 1 _ 57 (0, 0) hb2; have d2 := cell_of_row w2 _ 2 _ 57 (0, 0) hb2; have d3 := cell_of_row w2 _ 3 _ 57 (0, 0) hb2; have d4 := cell_of_row w2 _ 4 _ 57 (0, 0) hb2; simp at d0 d1 d2 d3 d4; replace hb2 : Hid _ := hb2; have kk2 : Keep wr w2 := Below.grown kX g2 kX.le (fun k hk => by simp at hk; omega); clear hrc c0 c1 c2 c3 c4 hrd) | (refine wpList_appC w.heap.size _ rfl _ _ rfl K (N, va, cc) u3 ?_ (hI.own.keep ((kk2.setCell (p := ⟨wr.heap.size, 1, none⟩) (Nat.le_refl _) _).alloc _)) (Nat.le_trans hB4 ((kk2.setCell (p := ⟨wr.heap.size, 1, none⟩) (Nat.le_refl _) _).alloc _).le) ⟨w2.heap.size, 0, none⟩ 1 ?_ (newsC _ _ (by simp) N va cc) hKl ?_; rotate_left 2; intro v5 w5 hO5 g5 hv5))
      · go_roundw
        case rel =>
          have kW := (kk2.setCell (p := ⟨wr.heap.size, 1, none⟩) (Nat.le_refl _) (.slice va N.cs.length cc))
          have hO2 : OwnZ 3 (wr.heap.size + 1) (w2.setCell ⟨wr.heap.size, 1, none⟩ (.slice va N.cs.length cc)) (.slice va N.cs.length cc) N.cs := hO.same (fun b hb => neq_set w2 _ _ _ b (by have := (hO.block hb).1; omega))
          refine ⟨k + 1, K ++ [(N, va, cc)], by omega, by go_num, ?_⟩
          rw [hst.out]
          exact hI.step (kW.alloc _) hsz ((hO2.mono (by omega)).keep ((Keep.refl _).alloc _)) hO5 g5
        case measure => simp [intOf]; omega
      all_goals rfl
    · have hkc : ¬ (k : Int) < (L.length : Int) := by omega
      obtain rfl : k = L.length := by omega
      rw [List.take_length] at hI
      go_wp2_with fail
      go_ret
      exact ⟨_, rfl, K, hI⟩
end Go.Proofs.Ytaogjiffnebnkaa
