import Derived.Test.YtaogjiffnebnkaaVB
import Derived.Test.YtaogjiffnebnkaaP12
import Derived.Test.YtaogjiffnebnkaaU3
import Derived.Deep.QuietTactic
import Derived.BigQuiet
set_option linter.unusedVariables false
set_option linter.unusedSimpArgs false
namespace Go.Proofs.Ytaogjiffnebnkaa
open Go.RowKit Go.Shelf Go.Maps
/-- The lists of what was gathered. -/
structure IsL (S : List (Nd × Ct)) (T : List Lst) : Prop where
  rise : T.Pairwise fun a b => a.ft < b.ft
  mem : ∀ φ, (∃ s ∈ S, s.1.ft = φ) ↔ ∃ t ∈ T, t.ft = φ
  cs : ∀ t ∈ T, t.cs = sel S t.ft 1
  ls : ∀ t ∈ T, t.ls = sel S t.ft 2
  ns : ∀ t ∈ T, srt kC t.ns ∧ eqv kC t.ns (sel S t.ft 0)
theorem isL_of {S : List (Nd × Ct)} {X : GX} {A : List Nat} {M : Nat → List CI} (hX : Con X S) (hA : A.Pairwise fun i j => X.f i < X.f j) (mA : ∀ i, i ∈ A ↔ i < X.n) (hM : ∀ i, i < X.n → srt Cu.kI (M i) ∧ eqv Cu.kI (M i) (X.K i 0)) : IsL S (A.map (lstP X M)) := by
  refine ⟨by rw [List.pairwise_map]; exact hA, fun φ => ?_, fun t ht => ?_, fun t ht => ?_, fun t ht => ?_⟩
  · rw [hX.mem φ]
    constructor
    · rintro ⟨i, hi, e⟩; exact ⟨_, List.mem_map.2 ⟨i, (mA i).2 hi, rfl⟩, e⟩
    · rintro ⟨t, ht, e⟩
      obtain ⟨i, hi, rfl⟩ := List.mem_map.1 ht
      exact ⟨i, (mA i).1 hi, e⟩
  · obtain ⟨i, hi, rfl⟩ := List.mem_map.1 ht
    exact hX.con i ((mA i).1 hi) 1 (by omega)
  · obtain ⟨i, hi, rfl⟩ := List.mem_map.1 ht
    exact hX.con i ((mA i).1 hi) 2 (by omega)
  · obtain ⟨i, hi, rfl⟩ := List.mem_map.1 ht
    obtain ⟨m1, m2⟩ := hM i ((mA i).1 hi)
    refine ⟨srt_fst m1, ?_⟩
    have := eqv_fst m2
    rw [hX.con i ((mA i).1 hi) 0 (by omega)] at this
    exact this
/-- What Of answers: lists that can be read. -/
theorem Of_rd (a : Option Addr) (cap : Nat) (ts : List (Int × List Nd)) (n : Nat) (hn : ts.length = n) (F : Int) (w : World) (ht : RdT w a ts) :
    Calls Try.prog 10 #[.slice a n cap, .int .i64 F] w fun e w' => ∃ a' c' T, e = .returned (.tuple #[.slice a' (T : List Lst).length c', .int .i64 (ofE ts F)]) ∧ Keep w w' ∧ RdL w' a' T ∧ T.length ≤ 1099511627776 ∧ (ofE ts F ≠ 0 → T = []) ∧ (ofE ts F = 0 → IsL (gall ts) T) := by
  subst hn
  refine (Of_any a cap ts F w ht).mono fun e w' h => ?_
  obtain ⟨v, rfl, k, h1, h2⟩ := h
  by_cases q : ofE ts F = 0
  · obtain ⟨X, A, M, hX, hA⟩ := h2 q
    obtain ⟨a', c', rfl, r, b⟩ := of_rd q hX hA
    exact ⟨a', c', A.map (lstP X M), rfl, k, r, b, fun e => absurd q e, fun _ => isL_of hX hA.2.2.1 hA.2.2.2.1 hA.2.2.2.2.1⟩
  · obtain rfl := h1 q
    exact ⟨none, 0, [], rfl, k, fun j hj => by simp at hj, by simp, fun _ => rfl, fun e => absurd e q⟩
/-- The tree that begins asks of. -/
def smpT : List Nd := [⟨2, 0, 1, 4611686018427387904, [], 2, 1, 2⟩, ⟨1, 10, 0, 0, [], 0, 0, 0⟩, ⟨1, 20, 0, 0, [], 0, 0, 0⟩]
def bsT : Mk.BT := .node 0 (.leaf 1) (.leaf 2)
theorem smpT_bt : Mk.Bt (Mk.shp (smpT.map Nd.m)) bsT 0 := .node (by decide) (.leaf (by decide)) (.leaf (by decide))
theorem smpT_trE : trE smpT = 0 := by kernel_rfl
theorem smpT_mkl : mkl smpT = [(0, 0, 1)] := by rw [mkl_of smpT_bt]; decide
def smpC : Ct := ⟨4611686018427387904, [], 0, 0, 1⟩
theorem smpT_gat : gat smpT 0 = [(⟨2, 0, 1, 4611686018427387904, [], 2, 1, 2⟩, smpC)] := by
  unfold gat
  rw [smpT_mkl]
  rfl
theorem smpT_gall : gall [(0, smpT)] = [(⟨2, 0, 1, 4611686018427387904, [], 2, 1, 2⟩, smpC)] := by
  have := gall_snoc [] (0, smpT)
  rw [List.nil_append] at this
  rw [this, show gall [] = [] from rfl, List.nil_append]
  exact smpT_gat
theorem smpT_tkE : tkE smpT 2 = 0 := by
  unfold tkE
  rw [if_neg (by simp [smpT_trE]), if_neg ?_]
  rintro ⟨m, hm, h⟩
  rw [smpT_mkl] at hm
  obtain rfl := List.mem_singleton.1 hm
  revert h
  decide
theorem smpT_ofE : ofE [(0, smpT)] 2 = 0 := by
  unfold ofE
  rw [if_neg (by decide), if_neg (by decide)]
  unfold firE
  rw [if_neg (by simp [smpT_tkE])]
  rfl
theorem smpT_isL {T : List Lst} (h : IsL (gall [(0, smpT)]) T) : T = [⟨1, [smpC], [], [smpC]⟩] := by
  rw [smpT_gall] at h
  have hm : ∀ t ∈ T, t.ft = 1 := by
    intro t ht
    obtain ⟨s, hs, e⟩ := (h.mem t.ft).2 ⟨t, ht, rfl⟩
    obtain rfl := List.mem_singleton.1 hs
    exact e.symm
  obtain ⟨t0, ht0, e0⟩ := (h.mem 1).1 ⟨_, List.mem_singleton.2 rfl, rfl⟩
  match T, h, hm, ht0 with
  | [], _, _, ht0 => cases ht0
  | t :: u :: r, h, hm, _ =>
    have h1 := (List.pairwise_cons.1 h.rise).1 u List.mem_cons_self
    have h2 := hm t List.mem_cons_self
    have h3 := hm u (List.mem_cons_of_mem _ List.mem_cons_self)
    omega
  | [t], h, hm, _ =>
    have f1 := hm t List.mem_cons_self
    have f2 := h.cs t List.mem_cons_self
    have f3 := h.ls t List.mem_cons_self
    obtain ⟨f4, f5⟩ := h.ns t List.mem_cons_self
    rw [f1] at f2 f3 f5
    have g0 : sel [(⟨2, 0, 1, 4611686018427387904, [], 2, 1, 2⟩, smpC)] 1 0 = [smpC] := rfl
    have g1 : sel [(⟨2, 0, 1, 4611686018427387904, [], 2, 1, 2⟩, smpC)] 1 1 = [] := rfl
    have g2 : sel [(⟨2, 0, 1, 4611686018427387904, [], 2, 1, 2⟩, smpC)] 1 2 = [smpC] := rfl
    rw [g0] at f5
    rw [g1] at f2
    rw [g2] at f3
    have f6 : t.ns = [smpC] := one f4 (by show List.Pairwise _ _; exact List.pairwise_singleton _ _) f5
    obtain ⟨a, b, c, d⟩ := t
    simp only at f1 f2 f3 f6
    rw [f1, f2, f3, f6]
end Go.Proofs.Ytaogjiffnebnkaa
set_option linter.unusedVariables false
set_option linter.unusedSimpArgs false
namespace Go.Proofs.Ytaogjiffnebnkaa
open Go.RowKit Go.Shelf Go.Maps
attribute [local go_sem] run_store_float
abbrev smpA : Array Value := #[Value.int IntKind.u8 2, Value.int IntKind.i64 0, Value.int IntKind.i64 1, Value.float FloatKind.f64 4611686018427387904, Value.slice none 0 0, Value.int IntKind.u8 2, Value.int IntKind.i64 1, Value.int IntKind.i64 2, Value.int IntKind.u8 1, Value.int IntKind.i64 10, Value.int IntKind.i64 0, Value.float FloatKind.f64 0, Value.slice none 0 0, Value.int IntKind.u8 0, Value.int IntKind.i64 0, Value.int IntKind.i64 0, Value.int IntKind.u8 1, Value.int IntKind.i64 20, Value.int IntKind.i64 0, Value.float FloatKind.f64 0, Value.slice none 0 0, Value.int IntKind.u8 0, Value.int IntKind.i64 0, Value.int IntKind.i64 0]
theorem smpT_fit : ∀ d ∈ smpT, d.Fit := by
  intro d hd
  simp only [smpT, List.mem_cons, List.not_mem_nil, or_false] at hd
  rcases hd with rfl | rfl | rfl <;> exact ⟨by decide, by decide, by decide, by decide, by simp, by decide, by decide, by decide⟩
theorem smpT_rdN {w : World} {b : Nat} (h : w.heap[b]? = some (.cells smpA 83 (0, 0))) : RdN w (some ⟨b, 0, none⟩) smpT := by
  intro j hj
  have hf := smpT_fit (smpT.getD j nd0) (by
    have : smpT.getD j nd0 = smpT[j] := by simp [List.getD, hj]
    rw [this]; exact List.getElem_mem _)
  have c : ∀ i, w.cell? ⟨b, i, none⟩ = smpA[i]? := fun i => cell_of_row w b i _ 83 (0, 0) h
  have hj3 : j < 3 := hj
  refine ⟨b, 0, none, 0, rfl, ?_⟩
  rw [Nat.zero_add]
  rcases (by omega : j = 0 ∨ j = 1 ∨ j = 2) with rfl | rfl | rfl
  all_goals exact ⟨by rw [c]; rfl, by rw [c]; rfl, by rw [c]; rfl, by rw [c]; rfl, by rw [c]; rfl, by rw [c]; rfl, by rw [c]; rfl, by rw [c]; rfl, fun j hj => by simp [smpT] at hj, by simp [smpT], by simp [smpT], hf⟩
theorem smpT_rdT (w : World) : ∃ w3, ((w.alloc (Obj.cells smpA 83)).alloc (Obj.cells #[Value.int IntKind.i64 0, Value.slice (some ⟨w.heap.size, 0, none⟩) 3 3] 54)).alloc (Obj.cells #[Value.int IntKind.i64 0, Value.slice (some ⟨w.heap.size, 0, none⟩) 3 3] 54) = w3 ∧ Keep w w3 ∧ RdT w3 (some ⟨w.heap.size + 1 + 1, 0, none⟩) [(0, smpT)] := by
  have k1 : Keep w (w.alloc (Obj.cells smpA 83)) := (Keep.refl w).alloc _
  have k2 := k1.alloc (Obj.cells #[Value.int IntKind.i64 0, Value.slice (some ⟨w.heap.size, 0, none⟩) 3 3] 54)
  refine ⟨_, rfl, k2.alloc _, ?_⟩
  have r1 := smpT_rdN (heap_alloc_new w (Obj.cells smpA 83))
  have h3 := heap_alloc_new ((w.alloc (Obj.cells smpA 83)).alloc (Obj.cells #[Value.int IntKind.i64 0, Value.slice (some ⟨w.heap.size, 0, none⟩) 3 3] 54)) (Obj.cells #[Value.int IntKind.i64 0, Value.slice (some ⟨w.heap.size, 0, none⟩) 3 3] 54)
  rw [World.size_alloc, World.size_alloc] at h3
  intro j hj
  obtain rfl : j = 0 := by simp at hj; exact hj
  refine ⟨w.heap.size + 1 + 1, 0, some ⟨w.heap.size, 0, none⟩, 3, rfl, ?_, ?_, (r1.keep ((Keep.refl _).alloc _)).keep ((Keep.refl _).alloc _), by decide, by decide, by decide⟩
  · rw [cell_of_row _ _ _ _ 54 (0, 0) h3]; rfl
  · rw [cell_of_row _ _ _ _ 54 (0, 0) h3]; rfl
theorem smp_first : fst [smpC] 4613937818241073152 = 1 := by decide +kernel
set_option maxRecDepth 100000 in
set_option maxHeartbeats 2000000 in
theorem begins_any (w : World) : Calls Try.prog 25 #[] w fun e w' => e = .returned (.bool true) ∧ Keep w w' := by
  obtain ⟨w3, hw3, k3, hR⟩ := smpT_rdT w
  have hO := Of_rd (some ⟨w.heap.size + 1 + 1, 0, none⟩) 1 [(0, smpT)] 1 rfl 2 w3 hR
  rw [smpT_ofE] at hO
  clear hR
  go_enter Try.func25, Try.ntmps25
  go_wp2_with fail
  try rw [hw3]
  refine hO.mono ?_
  rintro e w4 ⟨a4, c4, T, rfl, k4, hL, -, -, hI⟩
  obtain rfl := smpT_isL (hI (by first | trivial | rfl))
  obtain ⟨b, o, na, nc, ca, cc, la, lc, rfl, c0, c1, c2, c3, r1, r2, r3, -⟩ := hL 0 (by simp)
  simp only [List.getD_cons_zero, Nat.zero_mul, Nat.add_zero, List.length_cons, List.length_nil, Nat.zero_add] at c0 c1 c2 c3 r1 r2 r3
  obtain ⟨b2, o2, ca2, cp2, rfl, h2⟩ := r1 0 (by simp)
  simp only [List.getD_cons_zero, Nat.zero_mul, Nat.add_zero] at h2
  have d0 := h2.c0
  have d4 := h2.c4
  have hF := First_any 1 (some ⟨b2, o2, none⟩) [smpC] nc ca 0 cc la 1 lc 4613937818241073152 w4 (by simp) r1
  rw [smp_first] at hF
  unfold lst at hF
  simp only [smpC, List.length_cons, List.length_nil, Nat.zero_add] at d0 d4 hF ⊢
  have kk : Hid (Keep w w4) := k3.trans k4
  clear hO hI hL r1 r2 r3 h2 hw3 k3 k4
  go_wp2_with (go_at_call 15; refine hF.mono ?_; rintro e w5 ⟨rfl, k5⟩)
  go_ret
  exact ⟨rfl, kk.out.trans k5⟩
end Go.Proofs.Ytaogjiffnebnkaa
set_option linter.unusedVariables false
set_option linter.unusedSimpArgs false
namespace Go.Proofs.Ytaogjiffnebnkaa
open Go.RowKit Go.Shelf Go.Maps
attribute [local go_sem] run_store_float
end Go.Proofs.Ytaogjiffnebnkaa
set_option linter.unusedVariables false
set_option linter.unusedSimpArgs false
namespace Go.Proofs.Ytaogjiffnebnkaa
open Go.RowKit Go.Shelf Go.Maps
attribute [local go_sem] run_store_float
def sTr (x : CI) (z : Int) : CI := (⟨x.1.th, x.1.cs, z, x.1.fr, x.1.to⟩, x.2)
theorem UC_tr : ∀ (l : List CI) (j : Nat) (z : Int), j < l.length → UC (l.set j (sTr (l.getD j ct0) z)) = (UC l).set (j * 5 + 2) (.int .i64 z)
  | [], j, z, h => by simp at h
  | r :: l, 0, z, _ => by simp [UC, sTr]
  | r :: l, j + 1, z, h => by
    have := UC_tr l j z (by simpa using h)
    rw [show (j + 1) * 5 + 2 = (j * 5 + 2) + 1 + 1 + 1 + 1 + 1 by omega]
    simp only [List.set_cons_succ, UC, List.getD_cons_succ]
    rw [this]
theorem OwnC.tr {B : Nat} {w : World} {g n cap : Nat} {K : List CI} (h : OwnC B w (.slice (some ⟨g, 0, none⟩) n cap) K) (j : Nat) (z : Int) (hj : j < K.length) : OwnC B (w.setCell ⟨g, j * 5 + 2, none⟩ (.int .i64 z)) (.slice (some ⟨g, 0, none⟩) n cap) (K.set j (sTr (K.getD j ct0) z)) := by
  rcases h.2 with ⟨h1, _⟩ | ⟨g', cap', cur, hv, hg, hh, h1, h2, h3, h4⟩
  · cases h1
  · simp only [Value.slice.injEq, Option.some.injEq, Addr.mk.injEq, and_true] at hv
    obtain ⟨rfl, rfl, rfl⟩ := hv
    refine ⟨by rw [UC_length], .inr ⟨g, cap, _, by rw [List.length_set], hg, heap_setCell_same _ g (j * 5 + 2) _ 57 _ hh, by rw [List.length_set]; exact h1, h2, ?_, ?_⟩⟩
    · simp; exact h3
    · rw [List.length_set, UC_tr K j z hj, ← h4]
      simp only [Array.toList_setIfInBounds, List.take_set]
theorem OC.tr {L : List Ct} {w : World} {g n cap : Nat} {wr : World} {K : List CI} (h : OC L w (.slice (some ⟨g, 0, none⟩) n cap) wr K) (j : Nat) (z : Int) (hj : j < L.length) : OC (L.set j ⟨(L.getD j cd0).th, (L.getD j cd0).cs, z, (L.getD j cd0).fr, (L.getD j cd0).to⟩) w (.slice (some ⟨g, 0, none⟩) n cap) (wr.setCell ⟨g, j * 5 + 2, none⟩ (.int .i64 z)) (K.set j (sTr (K.getD j ct0) z)) := by
  have hjK : j < K.length := by rw [h.len]; exact hj
  obtain ⟨hgB, c9, hg9⟩ := h.own.block (b := g) rfl
  have hcat : ∀ {u : Value} {l : List Int}, OwnZ 3 w.heap.size wr u l → OwnZ 3 w.heap.size (wr.setCell ⟨g, j * 5 + 2, none⟩ (.int .i64 z)) u l := by
    intro u l hu
    refine hu.same fun b hb => neq_set _ _ _ _ b fun e => ?_
    obtain ⟨-, c2, hc⟩ := hu.block hb
    rw [e, hg9] at hc
    simp at hc
  have ej : L.getD j cd0 = (K.getD j ct0).1 := by rw [← h.eq]; simp [List.getD, hjK]
  refine ⟨?_, h.own.tr j z hjK, ?_, h.kp.setCell (p := ⟨g, j * 5 + 2, none⟩) hgB _⟩
  · rw [List.map_set, h.eq, ej]; rfl
  · intro r hr
    rcases List.mem_or_eq_of_mem_set hr with hr | rfl
    · exact ⟨hcat (h.cats r hr).1, (h.cats r hr).2⟩
    · have hm : K.getD j ct0 ∈ K := by
        have : K.getD j ct0 = K[j] := by simp [List.getD, hjK]
        rw [this]; exact List.getElem_mem _
      exact ⟨hcat (h.cats _ hm).1, (h.cats _ hm).2⟩
end Go.Proofs.Ytaogjiffnebnkaa
set_option linter.unusedVariables false
set_option linter.unusedSimpArgs false
namespace Go.Proofs.Ytaogjiffnebnkaa
open Go.RowKit Go.Shelf Go.Maps
attribute [local go_sem] run_store_float
/-- The list of a feature; none, if there is none. -/
def lkp (T : List Lst) (f : Int) : Lst := (T.find? fun t => t.ft == f).getD ⟨f, [], [], []⟩
end Go.Proofs.Ytaogjiffnebnkaa
set_option linter.unusedVariables false
set_option linter.unusedSimpArgs false
namespace Go.Proofs.Ytaogjiffnebnkaa
open Go.RowKit Go.Shelf Go.Maps
/-- A list of cuts of one's own whose categories are others'. -/
structure RC (L : List Ct) (w : World) (v : Value) (wr : World) (K : List CI) : Prop where
  eq : K.map (fun r => r.1) = L
  own : OwnC w.heap.size wr v K
  cats : ∀ r ∈ K, RdI w r.2.1 r.1.cs ∧ r.1.cs.length ≤ r.2.2 ∧ r.1.cs.length ≤ 17592186044416
  kp : Keep w wr
theorem RC.nil (w : World) : RC [] w (.slice none 0 0) w [] := ⟨rfl, OwnC.nil _ _, by simp, Keep.refl w⟩
theorem RC.len {L : List Ct} {w : World} {v : Value} {wr : World} {K : List CI} (h : RC L w v wr K) : K.length = L.length := by rw [← h.eq, List.length_map]
theorem RC.keep {L : List Ct} {w : World} {v : Value} {wr w' : World} {K : List CI} (h : RC L w v wr K) (k : Keep wr w') : RC L w v w' K := ⟨h.eq, h.own.keep k, h.cats, h.kp.trans k⟩
theorem RC.grow {L M : List Ct} {w : World} {v : Value} {wr W : World} {K Z : List CI} (h : RC L w v wr K) (k : Keep wr W) {v' : Value} {w5 : World} (hO : OwnC w.heap.size w5 v' (K ++ Z)) (g : W.grownBy w5 v.ownBlock) (hZ : Z.map (fun r => r.1) = M) (hc : ∀ r ∈ Z, RdI w r.2.1 r.1.cs ∧ r.1.cs.length ≤ r.2.2 ∧ r.1.cs.length ≤ 17592186044416) : RC (L ++ M) w v' w5 (K ++ Z) := by
  have h2 := h.keep k
  refine ⟨by rw [List.map_append, h.eq, hZ], hO, fun r hr => ?_, Below.grown h2.kp g h2.kp.le (fun b hb => (h2.own.block hb).1)⟩
  rcases List.mem_append.1 hr with hr | hr
  · exact h.cats r hr
  · exact hc r hr
theorem RC.rd {L : List Ct} {w : World} {v : Value} {wr : World} {K : List CI} (h : RC L w v wr K) : ∃ a c, v = .slice a L.length c ∧ RdC wr a L := by
  obtain ⟨a, c, e, hc, hr⟩ := h.own.shape
  rw [h.len] at e
  refine ⟨a, c, e, ?_⟩
  intro j hj
  have hj' : j < K.length := by rw [h.len]; exact hj
  obtain ⟨b, rfl, hu⟩ := hr j hj'
  have ej : L.getD j cd0 = (K.getD j ct0).1 := by rw [← h.eq]; simp [List.getD, hj']
  have hm : K.getD j ct0 ∈ K := by
    have : K.getD j ct0 = K[j] := by simp [List.getD, hj']
    rw [this]; exact List.getElem_mem _
  obtain ⟨h1, h2, h3⟩ := h.cats _ hm
  rw [ej]
  generalize K.getD j ct0 = r at *
  refine ⟨b, 0, r.2.1, r.2.2, rfl, ?_⟩
  rw [Nat.zero_add]
  exact ⟨hu 0 _ (by omega) rfl, hu 1 _ (by omega) rfl, hu 2 _ (by omega) rfl, hu 3 _ (by omega) rfl, hu 4 _ (by omega) rfl, h1.keep h.kp, h2, h3⟩
end Go.Proofs.Ytaogjiffnebnkaa
set_option linter.unusedVariables false
set_option linter.unusedSimpArgs false
namespace Go.Proofs.Ytaogjiffnebnkaa
open Go.RowKit Go.Shelf Go.Maps
attribute [local go_sem] run_store_float
theorem leq_key {x y : Ct} (hx : okT x) (hy : okT y) : (FloatKind.f64.format.order x.th y.th == some .lt || FloatKind.f64.format.order x.th y.th == some .eq) = decide (kC x ≤ kC y) := by
  have h := order_ky x.th y.th hx.2 hy.2
  have h1 := key_ky hx.1 hx.2
  have h2 := key_ky hy.1 hy.2
  show (Ieee.double.order x.th y.th == some .lt || Ieee.double.order x.th y.th == some .eq) = _
  rw [h]
  unfold kC
  rcases Int.lt_trichotomy (ky x.th) (ky y.th) with q | q | q
  · rw [cmp_lt q, decide_eq_true (by omega)]; rfl
  · have e : compare (ky x.th) (ky y.th) = .eq := Int.compare_eq_eq.2 q
    rw [e, decide_eq_true (by omega)]; rfl
  · have e : compare (ky x.th) (ky y.th) = .gt := Int.compare_eq_gt.2 q
    rw [e, decide_eq_false (by omega)]; rfl
/-- append(l, cuts...). -/
theorem appCs (B : Nat) (w : World) (ty : Nat) (v : Value) (l Z : List CI) (hown : OwnC B w v l) (hB : B ≤ w.heap.size) (ad : Option Addr) (m c : Nat) (hm : Z.length = m)
    (hn : ∀ j, j < Z.length → ∃ b o, ad = some ⟨b, o, none⟩ ∧ ∀ i u, i < 5 → (UC [Z.getD j ct0])[i]? = some u → w.cell? ⟨b, o + j * 5 + i, none⟩ = some u) (hlen : l.length + m ≤ 1099511627776) :
    ∃ v' w', (Builtin.append_ #[31, 31] ty #[v, .slice ad m c]).run Try.prog w = .ok v' w' ∧ OwnC B w' v' (l ++ Z) ∧ w.grownBy w' v.ownBlock := by
  obtain ⟨i0, hi, hz0, hz1, hz2⟩ := info_parts i57
  rcases ad with _ | ad
  · obtain rfl : Z = [] := by
      by_cases h : Z = []
      · exact h
      · obtain ⟨b, o, e, -⟩ := hn 0 (List.length_pos_iff.2 h); cases e
    simp at hm
    subst hm
    refine ⟨v, w, ?_, by rw [List.append_nil]; exact hown, ⟨rfl, rfl, rfl, Nat.le_refl _, fun _ _ _ => rfl⟩⟩
    rcases hown.2 with ⟨rfl, -⟩ | ⟨g, cap, cur, rfl, -, -, h1, -⟩
    · go_simp
    · go_simp
  · have hnews : ∀ j u, (UC Z)[j]? = some u → w.cell? (ad.add j) = some u := by
      intro j u hj
      have hjl : j < Z.length * 5 := by have := (List.getElem?_eq_some_iff.1 hj).1; rw [UC_length] at this; exact this
      obtain ⟨b, o, e, hc⟩ := hn (j / 5) (by omega)
      simp only [Option.some.injEq] at e
      subst e
      have hjj : j = j / 5 * 5 + j % 5 := by omega
      rw [hjj, UC_get Z (j / 5) (j % 5) (by omega) (by omega)] at hj
      have := hc (j % 5) u (by omega) hj
      rw [Go.WideShapes.add_plain, show o + j = o + j / 5 * 5 + j % 5 by omega]
      exact this
    obtain ⟨v', w', hr, h2, h3, -⟩ := run_append_own (P := Try.prog) w B 31 ty 57 i0 _ 5 56 Try.underlying31 hi hz0 hz1 hz2 rfl (by decide) v _ _ hown ad m c (UC Z) (by rw [UC_length, hm]) hnews (UC_one Z) (by simp only [maxLen]; omega) (by omega) hB
    refine ⟨v', w', hr, ?_, h3⟩
    unfold OwnC; rw [List.length_append, UC_append, hm]; exact h2
end Go.Proofs.Ytaogjiffnebnkaa
set_option linter.unusedVariables false
set_option linter.unusedSimpArgs false
namespace Go.Proofs.Ytaogjiffnebnkaa
open Go.RowKit Go.Shelf Go.Maps
attribute [local go_sem] run_store_float
/-- One cut more, another's. -/
theorem RC.one {L : List Ct} {w : World} {v : Value} {wr W : World} {K : List CI} (h : RC L w v wr K) (k : Keep wr W) {N : Ct} {ca : Option Addr} {cp : Nat} (hr : RdI w ca N.cs) (hc : N.cs.length ≤ cp) (hs : N.cs.length ≤ 17592186044416) {v' : Value} {w5 : World} (hO : OwnC w.heap.size w5 v' (K ++ [(N, ca, cp)])) (g : W.grownBy w5 v.ownBlock) : RC (L ++ [N]) w v' w5 (K ++ [(N, ca, cp)]) :=
  h.grow k hO g rfl (fun r hr' => by rw [List.mem_singleton.1 hr']; exact ⟨hr, hc, hs⟩)
end Go.Proofs.Ytaogjiffnebnkaa
set_option linter.unusedVariables false
set_option linter.unusedSimpArgs false
namespace Go.Proofs.Ytaogjiffnebnkaa
open Go.RowKit Go.Shelf Go.Maps
/-- What a feature's list is, whether there is one or not. -/
theorem IsL.lkp {S : List (Nd × Ct)} {T : List Lst} (h : IsL S T) (f : Int) : (lkp T f).cs = sel S f 1 ∧ (lkp T f).ls = sel S f 2 ∧ srt kC (lkp T f).ns ∧ eqv kC (lkp T f).ns (sel S f 0) := by
  unfold Go.Proofs.Ytaogjiffnebnkaa.lkp
  cases e : T.find? (fun t => t.ft == f) with
  | none =>
    have hn : ∀ s ∈ S, s.1.ft ≠ f := by
      intro s hs q
      obtain ⟨t, ht, r⟩ := (h.mem f).1 ⟨s, hs, q⟩
      have := List.find?_eq_none.1 e t ht
      simp [r] at this
    simp only [Option.getD_none]
    rw [sel_none hn, sel_none hn, sel_none hn]
    exact ⟨rfl, rfl, List.Pairwise.nil, eqv.refl _⟩
  | some t =>
    have ht := List.mem_of_find?_eq_some e
    have hf : t.ft = f := by have := List.find?_some e; simpa using this
    simp only [Option.getD_some]
    obtain ⟨n1, n2⟩ := h.ns t ht
    have c1 := h.cs t ht
    have c2 := h.ls t ht
    rw [hf] at c1 c2 n2
    exact ⟨c1, c2, n1, n2⟩
/-- How many cuts lists hold. -/
def cnt (T : List Lst) : Nat := (T.map fun t => t.ns.length + t.cs.length).sum
theorem sel_both (S : List (Nd × Ct)) (φ : Int) : (sel S φ 0).length + (sel S φ 1).length = (S.filter fun s => s.1.ft == φ).length := by
  induction S with
  | nil => rfl
  | cons s S ih =>
    unfold sel at ih ⊢
    simp only [List.length_map] at ih ⊢
    simp only [List.filter_cons]
    have hc : cnd s.1 1 = !(cnd s.1 0) := rfl
    rw [hc]
    cases (s.1.ft == φ) <;> cases (cnd s.1 0) <;> simp only [Bool.and_true, Bool.and_false, Bool.true_and, Bool.false_and, Bool.not_true, Bool.not_false, if_true, if_false, Bool.false_eq_true, List.length_cons] <;> omega
theorem one_of {f : Int} : ∀ {l : List Int}, l.Nodup → f ∈ l → (l.map fun g => if f == g then 1 else 0).sum = 1
  | [], _, h => by cases h
  | g :: l, hn, h => by
    obtain ⟨h1, h2⟩ := List.nodup_cons.1 hn
    simp only [List.map_cons, List.sum_cons]
    by_cases e : f = g
    · subst e
      have : (l.map fun g => if f == g then 1 else 0).sum = 0 := by
        have hz : ∀ l' : List Int, f ∉ l' → (l'.map fun g => if f == g then 1 else 0).sum = 0 := by
          intro l'
          induction l' with
          | nil => intro _; rfl
          | cons x l' ih =>
            intro hx
            simp only [List.mem_cons, not_or] at hx
            simp only [List.map_cons, List.sum_cons, ih hx.2]
            simp [hx.1]
        exact hz l h1
      rw [this]; simp
    · have := one_of h2 ((List.mem_cons.1 h).resolve_left e)
      rw [this]; simp [e]
theorem part_len : ∀ (S : List (Nd × Ct)) (l : List Int), l.Nodup → (∀ s ∈ S, s.1.ft ∈ l) → (l.map fun f => (S.filter fun s => s.1.ft == f).length).sum = S.length
  | [], l, _, _ => by
    have : ∀ l' : List Int, (l'.map fun _ => 0).sum = 0 := by intro l'; induction l' with
      | nil => rfl
      | cons x l' ih => simpa using ih
    simpa using this l
  | s :: S, l, hn, h => by
    have ih := part_len S l hn (fun s' hs => h s' (List.mem_cons_of_mem _ hs))
    have h1 := one_of hn (h s List.mem_cons_self)
    have hs : ∀ l' : List Int, (l'.map fun f => ((s :: S).filter fun s => s.1.ft == f).length).sum = (l'.map fun f => (S.filter fun s => s.1.ft == f).length).sum + (l'.map fun g => if s.1.ft == g then 1 else 0).sum := by
      intro l'
      induction l' with
      | nil => rfl
      | cons x l' ih2 =>
        rw [List.map_cons, List.sum_cons, ih2, List.map_cons, List.sum_cons, List.map_cons, List.sum_cons, List.filter_cons]
        cases (s.1.ft == x) <;> simp only [if_true, if_false, Bool.false_eq_true, List.length_cons] <;> omega
    rw [hs, ih, h1]
    simp
/-- They hold each cut once. -/
theorem IsL.cnt {S : List (Nd × Ct)} {T : List Lst} (h : IsL S T) : cnt T = S.length := by
  have hn : (T.map (·.ft)).Nodup := by
    show List.Pairwise _ _
    rw [List.pairwise_map]
    exact h.rise.imp fun q => by omega
  rw [← part_len S (T.map (·.ft)) hn (fun s hs => by
    obtain ⟨t, ht, e⟩ := (h.mem s.1.ft).1 ⟨s, hs, rfl⟩
    exact List.mem_map.2 ⟨t, ht, e⟩)]
  unfold Go.Proofs.Ytaogjiffnebnkaa.cnt
  rw [List.map_map]
  congr 1
  apply List.map_congr_left
  intro t ht
  have h1 := eqv.len (h.ns t ht).2
  have h2 := congrArg List.length (h.cs t ht)
  show t.ns.length + t.cs.length = _
  rw [h1, h2]
  exact sel_both S t.ft
end Go.Proofs.Ytaogjiffnebnkaa
set_option linter.unusedVariables false
set_option linter.unusedSimpArgs false
namespace Go.Proofs.Ytaogjiffnebnkaa
open Go.RowKit Go.Shelf Go.Maps
attribute [local go_sem] run_store_float
theorem RdT.take {w : World} {a : Option Addr} {ts : List (Int × List Nd)} (h : RdT w a ts) (k : Nat) : RdT w a (ts.take k) := by
  intro j hj
  have hj' : j < ts.length ∧ j < k := by rw [List.length_take] at hj; omega
  have e : (ts.take k).getD j (0, []) = ts.getD j (0, []) := by simp [List.getD, List.getElem?_take, hj'.2]
  rw [e]; exact h j hj'.1

end Go.Proofs.Ytaogjiffnebnkaa
set_option linter.unusedVariables false
set_option linter.unusedSimpArgs false
namespace Go.Proofs.Ytaogjiffnebnkaa
open Go.RowKit Go.Shelf Go.Maps
/-- What holds of all cuts holds of those of a list. -/
theorem IsL.all {S : List (Nd × Ct)} {T : List Lst} (h : IsL S T) {R : Ct → Prop} (hR : ∀ s ∈ S, R s.2) (f : Int) : (∀ c ∈ (Go.Proofs.Ytaogjiffnebnkaa.lkp T f).ns, R c) ∧ (∀ c ∈ (Go.Proofs.Ytaogjiffnebnkaa.lkp T f).cs, R c) ∧ (∀ c ∈ (Go.Proofs.Ytaogjiffnebnkaa.lkp T f).ls, R c) := by
  obtain ⟨h1, h2, -, h4⟩ := h.lkp f
  have hs : ∀ j, ∀ c ∈ sel S f j, R c := by
    intro j c hc
    unfold sel at hc
    obtain ⟨s, hs, e⟩ := List.mem_map.1 hc
    rw [← e]
    exact hR s (List.mem_filter.1 hs).1
  refine ⟨fun c hc => hs 0 c (h4.mem hc), fun c hc => ?_, fun c hc => ?_⟩
  · rw [h1] at hc; exact hs 1 c hc
  · rw [h2] at hc; exact hs 2 c hc
end Go.Proofs.Ytaogjiffnebnkaa
set_option linter.unusedVariables false
set_option linter.unusedSimpArgs false
namespace Go.Proofs.Ytaogjiffnebnkaa
open Go.RowKit Go.Shelf Go.Maps
/-- Two lists of cuts of one's own, one behind the other. -/
theorem OC.join {L M : List Ct} {w w5 w6 w7 : World} {v5 v6 v7 : Value} {K5 K6 : List CI} (h5 : OC L w v5 w5 K5) (h6 : OC M w5 v6 w6 K6) (hO : OwnC w.heap.size w7 v7 (K5 ++ K6)) (g : w6.grownBy w7 v5.ownBlock) : OC (L ++ M) w v7 w7 (K5 ++ K6) := by
  have h56 := h5.keep h6.kp
  have hsm : ∀ {u : Value} {l : List Int}, OwnZ 3 w.heap.size w6 u l → OwnZ 3 w.heap.size w7 u l := by
    intro u l hu
    refine hu.same (fun b hb => ?_)
    obtain ⟨-, cur, hc⟩ := hu.block hb
    exact g.block b (Array.getElem?_eq_some_iff.1 hc).1 (fun e => own_ne h56.own hu hb e.symm)
  refine ⟨by rw [List.map_append, h5.eq, h6.eq], hO, fun r hr => ?_, Below.grown h56.kp g h56.kp.le (fun b hb => (h56.own.block hb).1)⟩
  rcases List.mem_append.1 hr with hr | hr
  · exact ⟨hsm (h56.cats r hr).1, (h56.cats r hr).2⟩
  · exact ⟨hsm ((h6.cats r hr).1.mono h5.kp.le), (h6.cats r hr).2⟩
/-- Where the cuts of a row of one's own lie. -/
theorem OC.src {M : List Ct} {w5 w6 : World} {v6 : Value} {K6 : List CI} (h6 : OC M w5 v6 w6 K6) : ∃ a c, v6 = .slice a K6.length c ∧ ∀ j, j < K6.length → ∃ b o, a = some ⟨b, o, none⟩ ∧ ∀ i u, i < 5 → (UC [K6.getD j ct0])[i]? = some u → w6.cell? ⟨b, o + j * 5 + i, none⟩ = some u := by
  obtain ⟨a, c, e, -, hr⟩ := h6.own.shape
  refine ⟨a, c, e, fun j hj => ?_⟩
  obtain ⟨b, rfl, hu⟩ := hr j hj
  exact ⟨b, 0, rfl, fun i u hi h => by rw [Nat.zero_add]; exact hu i u hi h⟩
end Go.Proofs.Ytaogjiffnebnkaa
set_option linter.unusedVariables false
set_option linter.unusedSimpArgs false
namespace Go.Proofs.Ytaogjiffnebnkaa
open Go.RowKit Go.Shelf Go.Maps
end Go.Proofs.Ytaogjiffnebnkaa
set_option linter.unusedVariables false
set_option linter.unusedSimpArgs false
namespace Go.Proofs.Ytaogjiffnebnkaa
open Go.RowKit Go.Shelf Go.Maps
theorem cnt_app (A B : List Lst) : cnt (A ++ B) = cnt A + cnt B := by simp [cnt]
theorem cnt_le {T : List Lst} (i : Nat) : cnt (T.take i) ≤ cnt T := by
  have h := cnt_app (T.take i) (T.drop i)
  rw [List.take_append_drop] at h
  omega
theorem OC.fit {L : List Ct} {w : World} {v : Value} {wr : World} {K : List CI} (h : OC L w v wr K) (h1 : L.length ≤ 268435456) {m : Nat} (h2 : m ≤ 268435456) : K.length + m ≤ 1099511627776 := by have := h.len; omega
/-- Both, one behind the other. -/
theorem OC.fin {L M X : List Ct} {w w5 w6 w7 : World} {v5 v6 v7 : Value} {K5 K6 : List CI} {q : Nat} (h5 : OC L w v5 w5 K5) (h6 : OC M w5 v6 w6 K6) (hO : OwnC w.heap.size w7 v7 (K5 ++ K6)) (g : w6.grownBy w7 v5.ownBlock) (hX : X = L ++ M) (hq : X.length = q) : ∃ a c, v7 = .slice a q c ∧ Keep w w7 ∧ RdC w7 a X := by
  have h := h5.join h6 hO g
  obtain ⟨a, c, e, -, r⟩ := h.rd
  rw [← hX] at r e
  rw [hq] at e
  exact ⟨a, c, e, h.kp, r⟩
/-- append(l, cuts...) as a step of a region, under a guard that says yes. -/
theorem step_appCsW {ops : Array Oper} {o : Oper} {a : Act} {K : Act → World → Prop} {Q : Exit → Act → World → Prop} {X : Prop} {w : World} (B : Nat) (hw : Region.wanted o (yielded ops a.tmps) = true) (s x : Operand)
    (hop : o.op = .call { callee := .builtin .append, args := #[s, x], argTypes := #[31, 31] }) (l Z : List CI) (v : Value) (hs : a.eval s = v) (hown : OwnC B w v l) (hB : B ≤ w.heap.size) (ad : Option Addr) (m c : Nat) (hx : a.eval x = .slice ad m c) (hm : Z.length = m)
    (hn : ∀ j, j < Z.length → ∃ b o, ad = some ⟨b, o, none⟩ ∧ ∀ i u, i < 5 → (UC [Z.getD j ct0])[i]? = some u → w.cell? ⟨b, o + j * 5 + i, none⟩ = some u) (hlen : l.length + m ≤ 1099511627776)
    (hK : ∀ v' w', OwnC B w' v' (l ++ Z) → w.grownBy w' v.ownBlock → K (a.put o.dst v') w') :
    if Region.wanted o (yielded ops a.tmps) = true then Oper.wp Try.prog o a w K Q else X := by
  rw [if_pos hw]
  obtain ⟨v', w', hrun, r1, r2⟩ := appCs B w o.type v l Z hown hB ad m c hm hn hlen
  unfold Oper.wp
  simp [execOp, hop, resolve, invoke, builtin, hs, hx, hrun, Result.andThen]
  exact hK v' w' r1 r2
end Go.Proofs.Ytaogjiffnebnkaa
