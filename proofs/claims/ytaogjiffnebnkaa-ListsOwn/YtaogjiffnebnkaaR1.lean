import Derived.Test.YtaogjiffnebnkaaP4
import Derived.Maps.OwnSet
import Derived.Maps.OwnOps
import Derived.Maps.RangeWalk
set_option linter.unusedVariables false
set_option linter.unusedSimpArgs false
namespace Go.Proofs.Ytaogjiffnebnkaa
open Go.RowKit Go.Shelf Go.Maps
/-- A pointer as it stands in a map. -/
def pE : Value → Option (DataW Unit × List MemPlace)
  | .pointer none => some (.lit (.int .i64 (-1)), [])
  | .pointer (some ⟨b, 0, none⟩) => some (.lit (.int .i64 (b : Nat)), [])
  | _ => none
theorem pE_nil : pE (.pointer none) = some (.lit (.int .i64 (-1)), []) := rfl
theorem pE_box (b : Nat) : pE (.pointer (some ⟨b, 0, none⟩)) = some (.lit (.int .i64 (b : Nat)), []) := rfl
theorem pE_inv {v : Value} {z : DataW Unit × List MemPlace} (h : pE v = some z) : (v = .pointer none ∧ z.1 = .lit (.int .i64 (-1))) ∨ ∃ b : Nat, v = .pointer (some ⟨b, 0, none⟩) ∧ z.1 = .lit (.int .i64 (b : Nat)) := by
  unfold pE at h
  split at h
  · cases h; exact .inl ⟨rfl, rfl⟩
  · cases h; exact .inr ⟨_, rfl, rfl⟩
  · cases h
def iL (x : Int) : Lit := .int .i64 x
theorem iL_inj {a b : Int} (h : iL a = iL b) : a = b := by
  unfold iL at h
  injection h
theorem iL_key (x : Int) : WideAt.IsKeyLit (iL x) := trivial
theorem law3 : Keyed Try.prog 3 := int_keyed Try.underlying3
/-- What is gathered: for each feature its box and the three rows. -/
structure GX where
  n : Nat
  f : Nat → Int
  bx : Nat → Nat
  v : Nat → Nat → Value
  K : Nat → Nat → List (Ct × Option Addr × Nat)
def GX.nil : GX := ⟨0, fun _ => 0, fun _ => 0, fun _ _ => .slice none 0 0, fun _ _ => []⟩
def GX.put (X : GX) (φ : Int) (b : Nat) : GX := ⟨X.n + 1, fun i => if i = X.n then φ else X.f i, fun i => if i = X.n then b else X.bx i, fun i j => if i = X.n then .slice none 0 0 else X.v i j, fun i j => if i = X.n then [] else X.K i j⟩
def GX.app (X : GX) (i j : Nat) (v' : Value) (y : Ct × Option Addr × Nat) : GX := ⟨X.n, X.f, X.bx, fun i' j' => if i' = i ∧ j' = j then v' else X.v i' j', fun i' j' => if i' = i ∧ j' = j then X.K i j ++ [y] else X.K i' j'⟩
/-- What the map says. -/
structure Lk (D : DataW Unit) (X : GX) : Prop where
  hit : ∀ i, i < X.n → D.atKey (iL (X.f i)) (.lit (.int .i64 (-1))) = .lit (.int .i64 (X.bx i : Nat))
  miss : ∀ φ, (∀ i, i < X.n → X.f i ≠ φ) → D.atKey (iL φ) (.lit (.int .i64 (-1))) = .lit (.int .i64 (-1))
  has : ∀ φ, Maps.has D (iL φ) = true ↔ ∃ i, i < X.n ∧ X.f i = φ
  im : IsMap D
theorem Lk.nil : Lk (.map []) GX.nil := ⟨fun i hi => by simp [GX.nil] at hi, fun φ _ => rfl, fun φ => by simp [Maps.has, GX.nil], isMap_empty⟩
theorem Lk.put {D : DataW Unit} {X : GX} (h : Lk D X) (φ : Int) (b : Nat) (hn : ∀ i, i < X.n → X.f i ≠ φ) : Lk (D.put (iL φ) (.lit (.int .i64 (b : Nat)))) (X.put φ b) := by
  refine ⟨?_, ?_, ?_, h.im.put _ _⟩
  · intro i hi
    simp only [GX.put] at hi ⊢
    by_cases e : i = X.n
    · rw [if_pos e, if_pos e, atKey_put_same h.im (iL_key φ)]
    · rw [if_neg e, if_neg e, atKey_put_other (fun q => hn i (by omega) (iL_inj q))]
      exact h.hit i (by omega)
  · intro ψ hψ
    have h1 := hψ X.n (by simp [GX.put])
    simp [GX.put] at h1
    rw [atKey_put_other (fun q => h1 (iL_inj q).symm)]
    refine h.miss ψ fun i hi => ?_
    have := hψ i (by simp [GX.put]; omega)
    simp only [GX.put] at this
    rw [if_neg (by omega)] at this
    exact this
  · intro ψ
    by_cases e : ψ = φ
    · subst e
      rw [has_put_same h.im (iL_key ψ)]
      simp only [true_iff]
      exact ⟨X.n, by simp [GX.put], by simp [GX.put]⟩
    · rw [has_put_other (fun q => e (iL_inj q)), h.has]
      constructor
      · rintro ⟨i, hi, r⟩
        refine ⟨i, by simp [GX.put]; omega, ?_⟩
        simp only [GX.put]
        rw [if_neg (by omega)]; exact r
      · rintro ⟨i, hi, r⟩
        simp only [GX.put] at hi r
        by_cases q : i = X.n
        · rw [if_pos q] at r; exact absurd r.symm e
        · rw [if_neg q] at r; exact ⟨i, by omega, r⟩
theorem Lk.app {D : DataW Unit} {X : GX} (h : Lk D X) (i j : Nat) (v' : Value) (y : Ct × Option Addr × Nat) : Lk D (X.app i j v' y) := ⟨h.hit, h.miss, h.has, h.im⟩
/-- The memory of what is gathered. -/
structure GI (B : Nat) (w : World) (mb : Nat) (X : GX) : Prop where
  map : ∃ D : DataW Unit, w.ownsMap Try.prog 3 pE mb X.n D ∧ Lk D X
  mB : B ≤ mb
  box : ∀ i, i < X.n → B ≤ X.bx i ∧ w.heap[X.bx i]? = some (Obj.cells #[.int .i64 (X.f i), X.v i 0, X.v i 1, X.v i 2] 33 (0, 0))
  row : ∀ i, i < X.n → ∀ j, j < 3 → OwnC B w (X.v i j) (X.K i j)
  cat : ∀ i, i < X.n → ∀ j, j < 3 → ∀ r ∈ X.K i j, OwnZ 3 B w (.slice r.2.1 r.1.cs.length r.2.2) r.1.cs ∧ r.1.cs.length ≤ 17592186044416
  ap : ∀ i j i' j', i < X.n → i' < X.n → j < 3 → j' < 3 → (i ≠ i' ∨ j ≠ j') → ∀ b, (X.v i j).ownBlock = some b → (X.v i' j').ownBlock ≠ some b
  bi : ∀ i i', i < X.n → i' < X.n → X.bx i = X.bx i' → i = i'
  fi : ∀ i i', i < X.n → i' < X.n → X.f i = X.f i' → i = i'
theorem ownsMap_block {w w' : World} {b n : Nat} {D : DataW Unit} (h : w.ownsMap Try.prog 3 pE b n D) (hb : w'.heap[b]? = w.heap[b]?) : w'.ownsMap Try.prog 3 pE b n D := by
  obtain ⟨es, clock, h1, h2⟩ := h
  exact ⟨es, clock, hb.trans h1, h2⟩
theorem GI.mapLt {B : Nat} {w : World} {mb : Nat} {X : GX} (h : GI B w mb X) : ∃ es clock, w.heap[mb]? = some (.map es clock) := by
  obtain ⟨D, ⟨es, clock, h1, -⟩, -⟩ := h.map
  exact ⟨es, clock, h1⟩
theorem GI.nil (B : Nat) (w : World) (hB : B ≤ w.heap.size) : GI B (w.alloc (.map #[] 0)) w.heap.size GX.nil :=
  ⟨⟨_, World.ownsMap_made w _ _ _, Lk.nil⟩, hB, fun i hi => by simp [GX.nil] at hi, fun i hi => by simp [GX.nil] at hi, fun i hi => by simp [GX.nil] at hi, fun i _ _ _ hi => by simp [GX.nil] at hi, fun i _ hi => by simp [GX.nil] at hi, fun i _ hi => by simp [GX.nil] at hi⟩
/-- Blocks that are not written. -/
theorem GI.keep {B : Nat} {w w' : World} {mb : Nat} {X : GX} (h : GI B w mb X) (k : Keep w w') : GI B w' mb X := by
  have hk : ∀ b o, w.heap[b]? = some o → w'.heap[b]? = some o := fun b o hb => (k.block b (Array.getElem?_eq_some_iff.1 hb).1).trans hb
  obtain ⟨es, clock, hm⟩ := h.mapLt
  obtain ⟨D, h1, h2⟩ := h.map
  exact ⟨⟨D, ownsMap_block h1 ((hk _ _ hm).trans hm.symm), h2⟩, h.mB, fun i hi => ⟨(h.box i hi).1, hk _ _ (h.box i hi).2⟩, fun i hi j hj => (h.row i hi j hj).keep k, fun i hi j hj r hr => ⟨(h.cat i hi j hj r hr).1.keep k, (h.cat i hi j hj r hr).2⟩, h.ap, h.bi, h.fi⟩
theorem GI.app {B : Nat} {w : World} {mb : Nat} {X : GX} (h : GI B w mb X) {i j : Nat} (hi : i < X.n) (hj : j < 3) {W : World} (kW : Keep w W) {N : Ct} {va : Option Addr} {cc : Nat} (hs : N.cs.length ≤ 17592186044416)
    (hO : OwnZ 3 B W (.slice va N.cs.length cc) N.cs) {v' : Value} {w5 : World} (hO5 : OwnC B w5 v' (X.K i j ++ [(N, va, cc)])) (g5 : W.grownBy w5 (X.v i j).ownBlock) (hv : v'.ownBlock = (X.v i j).ownBlock ∨ v'.ownBlock = some W.heap.size) :
    GI B (w5.setCell ⟨X.bx i, j + 1, none⟩ v') mb (X.app i j v' (N, va, cc)) := by
  have hW := h.keep kW
  have hbx := (hW.box i hi).2
  have hne : ∀ b cur ty, W.heap[b]? = some (Obj.cells cur ty (0, 0)) → ty ≠ 57 → some b ≠ (X.v i j).ownBlock := by
    intro b cur ty hb ht e
    obtain ⟨-, c2, hc⟩ := (hW.row i hi j hj).block e.symm
    rw [hb] at hc
    simp at hc
    exact ht hc.2
  have hk : ∀ b o, W.heap[b]? = some o → some b ≠ (X.v i j).ownBlock → b ≠ X.bx i → (w5.setCell ⟨X.bx i, j + 1, none⟩ v').heap[b]? = some o := by
    intro b o hb h1 h2
    rw [neq_set _ _ _ _ b h2, g5.block b (Array.getElem?_eq_some_iff.1 hb).1 h1, hb]
  have hb5 : w5.heap[X.bx i]? = some (Obj.cells #[.int .i64 (X.f i), X.v i 0, X.v i 1, X.v i 2] 33 (0, 0)) := by
    rw [g5.block _ (Array.getElem?_eq_some_iff.1 hbx).1 (hne _ _ _ hbx (by decide)), hbx]
  have hb6 := heap_setCell_same w5 (X.bx i) (j + 1) _ 33 v' hb5
  have hlt : ∀ i' j', i' < X.n → j' < 3 → ∀ b, (X.v i' j').ownBlock = some b → b < W.heap.size := by
    intro i' j' hi' hj' b hb
    obtain ⟨-, c2, hc⟩ := (hW.row i' hi' j' hj').block hb
    exact (Array.getElem?_eq_some_iff.1 hc).1
  have hbne : ∀ b cur ty, W.heap[b]? = some (Obj.cells cur ty (0, 0)) → ty ≠ 33 → b ≠ X.bx i := by
    intro b cur ty hb ht e
    rw [e, hbx] at hb
    simp at hb
    exact ht hb.2.symm
  refine ⟨?_, hW.mB, ?_, ?_, ?_, ?_, hW.bi, hW.fi⟩
  · obtain ⟨es, clock, hm⟩ := hW.mapLt
    obtain ⟨D, h1, h2⟩ := hW.map
    refine ⟨D, ownsMap_block h1 ((hk _ _ hm ?_ ?_).trans hm.symm), h2.app i j _ _⟩
    · intro e
      obtain ⟨-, c2, hc⟩ := (hW.row i hi j hj).block e.symm
      rw [hm] at hc; cases hc
    · intro e
      rw [e, hbx] at hm; cases hm
  · intro i' hi'
    replace hi' : i' < X.n := hi'
    refine ⟨(hW.box i' hi').1, ?_⟩
    by_cases e : i' = i
    · subst e
      show (w5.setCell ⟨X.bx i', j + 1, none⟩ v').heap[X.bx i']? = _
      rw [hb6]
      rcases (by omega : j = 0 ∨ j = 1 ∨ j = 2) with rfl | rfl | rfl <;> simp [GX.app]
    · have := (hW.box i' hi').2
      refine (hk _ _ this (hne _ _ _ this (by decide)) (fun q => e (hW.bi i' i hi' hi q))).trans ?_
      simp [GX.app, e]
  · intro i' hi' j' hj'
    replace hi' : i' < X.n := hi'
    by_cases e : i' = i ∧ j' = j
    · simp only [GX.app, if_pos e]
      refine hO5.same fun b hb => ?_
      obtain ⟨-, c2, hc⟩ := hO5.block hb
      refine neq_set _ _ _ _ b (fun q => ?_)
      rw [q, hb5] at hc
      simp at hc
    · simp only [GX.app, if_neg e]
      refine (hW.row i' hi' j' hj').same fun b hb => ?_
      obtain ⟨-, c2, hc⟩ := (hW.row i' hi' j' hj').block hb
      refine (hk b _ hc (fun q => ?_) (hbne b _ _ hc (by decide))).trans hc.symm
      exact hW.ap i' j' i j hi' hi hj' hj (by omega) b hb q.symm
  · intro i' hi' j' hj' r hr
    replace hi' : i' < X.n := hi'
    have hsm : ∀ {u : Value} {l : List Int}, OwnZ 3 B W u l → OwnZ 3 B (w5.setCell ⟨X.bx i, j + 1, none⟩ v') u l := by
      intro u l hu
      refine hu.same fun b hb => ?_
      obtain ⟨-, c2, hc⟩ := hu.block hb
      exact (hk b _ hc (hne b _ _ hc (by decide)) (hbne b _ _ hc (by decide))).trans hc.symm
    by_cases e : i' = i ∧ j' = j
    · simp only [GX.app, if_pos e] at hr
      rcases List.mem_append.1 hr with hr | hr
      · exact ⟨hsm (hW.cat i hi j hj r hr).1, (hW.cat i hi j hj r hr).2⟩
      · obtain rfl := List.mem_singleton.1 hr
        exact ⟨hsm hO, hs⟩
    · simp only [GX.app, if_neg e] at hr
      exact ⟨hsm (hW.cat i' hi' j' hj' r hr).1, (hW.cat i' hi' j' hj' r hr).2⟩
  · intro i1 j1 i2 j2 h1 h2 h3 h4 hne' b
    replace h1 : i1 < X.n := h1
    replace h2 : i2 < X.n := h2
    simp only [GX.app]
    by_cases e1 : i1 = i ∧ j1 = j
    · rw [if_pos e1, if_neg (by omega)]
      intro hb hq
      rcases hv with hv | hv
      · rw [hv] at hb
        exact hW.ap i j i2 j2 hi h2 hj h4 (by omega) b hb hq
      · rw [hv] at hb
        have := hlt i2 j2 h2 h4 b hq
        cases hb; omega
    · rw [if_neg e1]
      by_cases e2 : i2 = i ∧ j2 = j
      · rw [if_pos e2]
        intro hb hq
        rcases hv with hv | hv
        · rw [hv] at hq
          exact hW.ap i1 j1 i j h1 hi h3 hj (by omega) b hb hq
        · rw [hv] at hq
          have := hlt i1 j1 h1 h3 b hb
          cases hq; omega
      · rw [if_neg e2]
        exact hW.ap i1 j1 i2 j2 h1 h2 h3 h4 hne' b
/-- A box for a new feature. -/
theorem GI.put {B : Nat} {w : World} {mb : Nat} {X : GX} (h : GI B w mb X) {φ : Int} (hn : ∀ i, i < X.n → X.f i ≠ φ) {w2 : World} {b : Nat} (hbB : B ≤ b) (hnew : w.heap[b]? = some (Obj.cells #[.int .i64 φ, .slice none 0 0, .slice none 0 0, .slice none 0 0] 33 (0, 0)))
    (hfr : ∀ i, i < X.n → X.bx i ≠ b) {D : DataW Unit} (hD2 : Lk D X) (hm2 : w2.ownsMap Try.prog 3 pE mb (X.n + 1) (D.put (iL φ) (.lit (.int .i64 (b : Nat))))) (g2 : w.grownBy w2 (some mb)) : GI B w2 mb (X.put φ b) := by
  obtain ⟨es, clock, hm⟩ := h.mapLt
  have hk : ∀ (b' : Nat) (cur : Array Value) (ty : TypeId), w.heap[b']? = some (Obj.cells cur ty (0, 0)) → w2.heap[b']? = some (Obj.cells cur ty (0, 0)) := by
    intro b' cur ty hb
    rw [g2.block b' (Array.getElem?_eq_some_iff.1 hb).1 (by intro e; cases e; rw [hm] at hb; cases hb), hb]
  have hrow : ∀ {v : Value} {K : List (Ct × Option Addr × Nat)}, OwnC B w v K → OwnC B w2 v K := by
    intro v K hv
    refine hv.same fun b hb => ?_
    obtain ⟨-, c2, hc⟩ := hv.block hb
    exact (hk _ _ _ hc).trans hc.symm
  have hcat : ∀ {v : Value} {K : List Int}, OwnZ 3 B w v K → OwnZ 3 B w2 v K := by
    intro v K hv
    refine hv.same fun b hb => ?_
    obtain ⟨-, c2, hc⟩ := hv.block hb
    exact (hk _ _ _ hc).trans hc.symm
  have hnb : (Value.slice none 0 0).ownBlock = none := rfl
  refine ⟨?_, h.mB, ?_, ?_, ?_, ?_, ?_, ?_⟩
  · exact ⟨_, hm2, hD2.put φ b hn⟩
  · intro i hi
    by_cases e : i = X.n
    · simp only [GX.put, if_pos e]
      exact ⟨hbB, hk _ _ _ hnew⟩
    · simp only [GX.put, if_neg e] at hi ⊢
      exact ⟨(h.box i (by omega)).1, hk _ _ _ (h.box i (by omega)).2⟩
  · intro i hi j hj
    by_cases e : i = X.n
    · simp only [GX.put, if_pos e]
      exact OwnC.nil _ _
    · simp only [GX.put, if_neg e] at hi ⊢
      exact hrow (h.row i (by omega) j hj)
  · intro i hi j hj r hr
    by_cases e : i = X.n
    · simp only [GX.put, if_pos e] at hr
      cases hr
    · simp only [GX.put, if_neg e] at hi hr
      exact ⟨hcat (h.cat i (by omega) j hj r hr).1, (h.cat i (by omega) j hj r hr).2⟩
  · intro i1 j1 i2 j2 h1 h2 h3 h4 hne b'
    simp only [GX.put] at h1 h2 ⊢
    by_cases e1 : i1 = X.n
    · rw [if_pos e1, hnb]; intro q; cases q
    · rw [if_neg e1]
      by_cases e2 : i2 = X.n
      · rw [if_pos e2, hnb]; intro _ q; cases q
      · rw [if_neg e2]; exact h.ap i1 j1 i2 j2 (by omega) (by omega) h3 h4 hne b'
  · intro i1 i2 h1 h2
    simp only [GX.put] at h1 h2 ⊢
    by_cases e1 : i1 = X.n
    · by_cases e2 : i2 = X.n
      · intro _; omega
      · rw [if_pos e1, if_neg e2]; intro q; exact absurd q.symm (hfr i2 (by omega))
    · by_cases e2 : i2 = X.n
      · rw [if_neg e1, if_pos e2]; intro q; exact absurd q (hfr i1 (by omega))
      · rw [if_neg e1, if_neg e2]; exact h.bi i1 i2 (by omega) (by omega)
  · intro i1 i2 h1 h2
    simp only [GX.put] at h1 h2 ⊢
    by_cases e1 : i1 = X.n
    · by_cases e2 : i2 = X.n
      · intro _; omega
      · rw [if_pos e1, if_neg e2]; intro q; exact absurd q.symm (hn i2 (by omega))
    · by_cases e2 : i2 = X.n
      · rw [if_neg e1, if_pos e2]; intro q; exact absurd q (hn i1 (by omega))
      · rw [if_neg e1, if_neg e2]; exact h.fi i1 i2 (by omega) (by omega)
/-- What a look-up finds. -/
theorem GI.look {B : Nat} {w : World} {mb : Nat} {X : GX} (h : GI B w mb X) {z : Value} (hz : (zeroValue 101).run Try.prog w = .ok (.pointer none) w) {φ : Int} (hwf : (iL φ).wf = true) (u : Value) (hu : ((∀ i, i < X.n → X.f i ≠ φ) ∧ u = .pointer none) ∨ ∃ i, i < X.n ∧ X.f i = φ ∧ u = .pointer (some ⟨X.bx i, 0, none⟩)) :
    (Instr.lookup 74 (.map (some mb)) (.int .i64 φ) false).run Try.prog w = .ok u w := by
  obtain ⟨D, h1, h2⟩ := h.map
  obtain ⟨v, ps, hrun, hv⟩ := h1.lookup law3 Try.underlying74 hz pE_nil (keyOf_int_mk Try.underlying3 hwf)
  rw [hrun]
  have hv2 := pE_inv hv
  rcases hu with ⟨hu, rfl⟩ | ⟨i, hi, rfl, rfl⟩
  · have := h2.miss φ hu
    rw [show iL φ = Lit.int .i64 φ from rfl] at this
    rw [this] at hv2
    rcases hv2 with ⟨rfl, -⟩ | ⟨b, -, q⟩
    · rfl
    · simp at q; try omega
  · have := h2.hit i hi
    rw [show iL (X.f i) = Lit.int .i64 (X.f i) from rfl] at this
    rw [this] at hv2
    rcases hv2 with ⟨-, q⟩ | ⟨b, rfl, q⟩
    · simp at q; try omega
    · simp at q
      obtain rfl : X.bx i = b := by omega
      rfl
end Go.Proofs.Ytaogjiffnebnkaa
