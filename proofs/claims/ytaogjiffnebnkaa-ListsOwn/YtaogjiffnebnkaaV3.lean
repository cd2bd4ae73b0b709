import Derived.Test.YtaogjiffnebnkaaU5
import Derived.Test.YtaogjiffnebnkaaU4
set_option linter.unusedVariables false
set_option linter.unusedSimpArgs false
namespace Go.Proofs.Ytaogjiffnebnkaa
open Go.RowKit Go.Shelf Go.Maps
/-- What the map of places says: one more than the place. -/
structure LkI (D : DataW Unit) (X : GX) : Prop where
  hit : ∀ i, i < X.n → D.atKey (iL (X.f i)) (.lit (.int .i64 0)) = .lit (.int .i64 (i + 1 : Nat))
  miss : ∀ φ, (∀ i, i < X.n → X.f i ≠ φ) → D.atKey (iL φ) (.lit (.int .i64 0)) = .lit (.int .i64 0)
  im : IsMap D
theorem LkI.nil : LkI (.map []) GX.nil := ⟨fun i hi => by simp [GX.nil] at hi, fun φ _ => rfl, isMap_empty⟩
theorem LkI.put {D : DataW Unit} {X : GX} (h : LkI D X) (φ : Int) (hn : ∀ i, i < X.n → X.f i ≠ φ) : LkI (D.put (iL φ) (.lit (.int .i64 (X.n + 1 : Nat)))) (X.put φ 0) := by
  refine ⟨?_, ?_, h.im.put _ _⟩
  · intro i hi
    simp only [GX.put] at hi ⊢
    by_cases e : i = X.n
    · rw [if_pos e, atKey_put_same h.im (iL_key φ), e]
    · rw [if_neg e, atKey_put_other (fun q => hn i (by omega) (iL_inj q))]
      exact h.hit i (by omega)
  · intro ψ hψ
    have h1 := hψ X.n (by simp [GX.put])
    simp [GX.put] at h1
    rw [atKey_put_other (fun q => h1 (iL_inj q).symm)]
    refine h.miss ψ fun i hi => ?_
    have := hψ i (by simp [GX.put]; omega)
    simp only [GX.put] at this
    rw [if_neg (by omega)] at this
    exact this
/-- One row in the place of another. -/
def GX.rep (X : GX) (i j : Nat) (v' : Value) (K' : List CI) : GX := ⟨X.n, X.f, X.bx, fun i' j' => if i' = i ∧ j' = j then v' else X.v i' j', fun i' j' => if i' = i ∧ j' = j then K' else X.K i' j'⟩
/-- What the reference gathers, in memory: map and rows. -/
structure HJ (B : Nat) (w : World) (mb : Nat) (X : GX) : Prop where
  map : ∃ D : DataW Unit, w.ownsMap Try.prog 3 (plainElem Try.prog 3) mb X.n D ∧ LkI D X
  mB : B ≤ mb
  row : ∀ i, i < X.n → ∀ j, j < 3 → OwnC B w (X.v i j) (X.K i j)
  cat : ∀ i, i < X.n → ∀ j, j < 3 → ∀ r ∈ X.K i j, OwnZ 3 B w (.slice r.2.1 r.1.cs.length r.2.2) r.1.cs ∧ r.1.cs.length ≤ 17592186044416
  ap : ∀ i j i' j', i < X.n → i' < X.n → j < 3 → j' < 3 → (i ≠ i' ∨ j ≠ j') → ∀ b, (X.v i j).ownBlock = some b → (X.v i' j').ownBlock ≠ some b
  fi : ∀ i i', i < X.n → i' < X.n → X.f i = X.f i' → i = i'
theorem ownsMapI_block {w w' : World} {b n : Nat} {D : DataW Unit} (h : w.ownsMap Try.prog 3 (plainElem Try.prog 3) b n D) (hb : w'.heap[b]? = w.heap[b]?) : w'.ownsMap Try.prog 3 (plainElem Try.prog 3) b n D := by
  obtain ⟨es, clock, h1, h2⟩ := h
  exact ⟨es, clock, hb.trans h1, h2⟩
theorem HJ.mapLt {B : Nat} {w : World} {mb : Nat} {X : GX} (h : HJ B w mb X) : ∃ es clock, w.heap[mb]? = some (.map es clock) := by
  obtain ⟨D, ⟨es, clock, h1, -⟩, -⟩ := h.map
  exact ⟨es, clock, h1⟩
theorem HJ.nil (B : Nat) (w : World) (hB : B ≤ w.heap.size) : HJ B (w.alloc (.map #[] 0)) w.heap.size GX.nil :=
  ⟨⟨_, World.ownsMap_made w _ _ _, LkI.nil⟩, hB, fun i hi => by simp [GX.nil] at hi, fun i hi => by simp [GX.nil] at hi, fun i _ _ _ hi => by simp [GX.nil] at hi, fun i _ hi => by simp [GX.nil] at hi⟩
/-- Rows of cuts, rows of whole numbers and maps that are as they were. -/
theorem HJ.same {B : Nat} {w w' : World} {mb : Nat} {X : GX} (h : HJ B w mb X) (hm : ∀ es clock, w.heap[mb]? = some (.map es clock) → w'.heap[mb]? = some (.map es clock)) (hk : ∀ (b : Nat) (cur : Array Value) (ty : TypeId), w.heap[b]? = some (Obj.cells cur ty (0, 0)) → (ty = 57 ∨ ty = 3) → w'.heap[b]? = some (Obj.cells cur ty (0, 0))) : HJ B w' mb X := by
  obtain ⟨es, clock, hmb⟩ := h.mapLt
  obtain ⟨D, h1, h2⟩ := h.map
  refine ⟨⟨D, ownsMapI_block h1 ((hm _ _ hmb).trans hmb.symm), h2⟩, h.mB, fun i hi j hj => (h.row i hi j hj).same fun b hb => ?_, fun i hi j hj r hr => ⟨(h.cat i hi j hj r hr).1.same fun b hb => ?_, (h.cat i hi j hj r hr).2⟩, h.ap, h.fi⟩
  · obtain ⟨-, c2, hc⟩ := (h.row i hi j hj).block hb
    exact (hk b c2 57 hc (.inl rfl)).trans hc.symm
  · obtain ⟨-, c2, hc⟩ := (h.cat i hi j hj r hr).1.block hb
    exact (hk b c2 3 hc (.inr rfl)).trans hc.symm
theorem HJ.keep {B : Nat} {w w' : World} {mb : Nat} {X : GX} (h : HJ B w mb X) (k : Keep w w') : HJ B w' mb X :=
  h.same (fun es clock hb => (k.block mb (Array.getElem?_eq_some_iff.1 hb).1).trans hb) fun b cur ty hb _ => (k.block b (Array.getElem?_eq_some_iff.1 hb).1).trans hb
/-- One row grown or written. -/
theorem HJ.rep {B : Nat} {w : World} {mb : Nat} {X : GX} (h : HJ B w mb X) {i j : Nat} (hi : i < X.n) (hj : j < 3) {w5 : World} {v' : Value} {K' : List CI} (hO5 : OwnC B w5 v' K') (hK' : ∀ r ∈ K', r ∈ X.K i j ∨ (OwnZ 3 B w (.slice r.2.1 r.1.cs.length r.2.2) r.1.cs ∧ r.1.cs.length ≤ 17592186044416))
    (g5 : w.grownBy w5 (X.v i j).ownBlock) (hv : v'.ownBlock = (X.v i j).ownBlock ∨ ∃ b, v'.ownBlock = some b ∧ w.heap.size ≤ b) : HJ B w5 mb (X.rep i j v' K') := by
  have hne : ∀ b cur ty, w.heap[b]? = some (Obj.cells cur ty (0, 0)) → ty ≠ 57 → some b ≠ (X.v i j).ownBlock := by
    intro b cur ty hb ht e
    obtain ⟨-, c2, hc⟩ := (h.row i hi j hj).block e.symm
    rw [hb] at hc
    simp at hc
    exact ht hc.2
  have hk : ∀ b o, w.heap[b]? = some o → some b ≠ (X.v i j).ownBlock → w5.heap[b]? = some o := by
    intro b o hb h1
    rw [g5.block b (Array.getElem?_eq_some_iff.1 hb).1 h1, hb]
  have hlt : ∀ i' j', i' < X.n → j' < 3 → ∀ b, (X.v i' j').ownBlock = some b → b < w.heap.size := by
    intro i' j' hi' hj' b hb
    obtain ⟨-, c2, hc⟩ := (h.row i' hi' j' hj').block hb
    exact (Array.getElem?_eq_some_iff.1 hc).1
  have hsm : ∀ {u : Value} {l : List Int}, OwnZ 3 B w u l → OwnZ 3 B w5 u l := by
    intro u l hu
    refine hu.same fun b hb => ?_
    obtain ⟨-, c2, hc⟩ := hu.block hb
    exact (hk b _ hc (hne b _ _ hc (by decide))).trans hc.symm
  refine ⟨?_, h.mB, ?_, ?_, ?_, h.fi⟩
  · obtain ⟨es, clock, hm⟩ := h.mapLt
    obtain ⟨D, h1, h2⟩ := h.map
    refine ⟨D, ownsMapI_block h1 ((hk _ _ hm ?_).trans hm.symm), ⟨h2.hit, h2.miss, h2.im⟩⟩
    intro e
    obtain ⟨-, c2, hc⟩ := (h.row i hi j hj).block e.symm
    rw [hm] at hc; cases hc
  · intro i' hi' j' hj'
    replace hi' : i' < X.n := hi'
    by_cases e : i' = i ∧ j' = j
    · simp only [GX.rep, if_pos e]
      exact hO5
    · simp only [GX.rep, if_neg e]
      refine (h.row i' hi' j' hj').same fun b hb => ?_
      obtain ⟨-, c2, hc⟩ := (h.row i' hi' j' hj').block hb
      refine (hk b _ hc (fun q => ?_)).trans hc.symm
      exact h.ap i' j' i j hi' hi hj' hj (by omega) b hb q.symm
  · intro i' hi' j' hj' r hr
    replace hi' : i' < X.n := hi'
    by_cases e : i' = i ∧ j' = j
    · simp only [GX.rep, if_pos e] at hr
      rcases hK' r hr with hr | hr
      · exact ⟨hsm (h.cat i hi j hj r hr).1, (h.cat i hi j hj r hr).2⟩
      · exact ⟨hsm hr.1, hr.2⟩
    · simp only [GX.rep, if_neg e] at hr
      exact ⟨hsm (h.cat i' hi' j' hj' r hr).1, (h.cat i' hi' j' hj' r hr).2⟩
  · intro i1 j1 i2 j2 h1 h2 h3 h4 hne' b
    replace h1 : i1 < X.n := h1
    replace h2 : i2 < X.n := h2
    simp only [GX.rep]
    by_cases e1 : i1 = i ∧ j1 = j
    · rw [if_pos e1, if_neg (by omega)]
      intro hb hq
      rcases hv with hv | ⟨b', hv, hb'⟩
      · rw [hv] at hb
        exact h.ap i j i2 j2 hi h2 hj h4 (by omega) b hb hq
      · rw [hv] at hb
        have := hlt i2 j2 h2 h4 b hq
        cases hb; omega
    · rw [if_neg e1]
      by_cases e2 : i2 = i ∧ j2 = j
      · rw [if_pos e2]
        intro hb hq
        rcases hv with hv | ⟨b', hv, hb'⟩
        · rw [hv] at hq
          exact h.ap i1 j1 i j h1 hi h3 hj (by omega) b hb hq
        · rw [hv] at hq
          have := hlt i1 j1 h1 h3 b hb
          cases hq; omega
      · rw [if_neg e2]
        exact h.ap i1 j1 i2 j2 h1 h2 h3 h4 hne' b
/-- A new feature. -/
theorem HJ.put {B : Nat} {w : World} {mb : Nat} {X : GX} (h : HJ B w mb X) {φ : Int} (hn : ∀ i, i < X.n → X.f i ≠ φ) {w2 : World} {D : DataW Unit} (hD2 : LkI D X) (hm2 : w2.ownsMap Try.prog 3 (plainElem Try.prog 3) mb (X.n + 1) (D.put (iL φ) (.lit (.int .i64 (X.n + 1 : Nat))))) (g2 : w.grownBy w2 (some mb)) : HJ B w2 mb (X.put φ 0) := by
  obtain ⟨es, clock, hm⟩ := h.mapLt
  have hk : ∀ (b' : Nat) (cur : Array Value) (ty : TypeId), w.heap[b']? = some (Obj.cells cur ty (0, 0)) → w2.heap[b']? = some (Obj.cells cur ty (0, 0)) := by
    intro b' cur ty hb
    rw [g2.block b' (Array.getElem?_eq_some_iff.1 hb).1 (by intro e; cases e; rw [hm] at hb; cases hb), hb]
  have hnb : (Value.slice none 0 0).ownBlock = none := rfl
  refine ⟨⟨_, hm2, hD2.put φ hn⟩, h.mB, ?_, ?_, ?_, ?_⟩
  · intro i hi j hj
    by_cases e : i = X.n
    · simp only [GX.put, if_pos e]
      exact OwnC.nil _ _
    · simp only [GX.put, if_neg e] at hi ⊢
      refine (h.row i (by omega) j hj).same fun b hb => ?_
      obtain ⟨-, c2, hc⟩ := (h.row i (by omega) j hj).block hb
      exact (hk _ _ _ hc).trans hc.symm
  · intro i hi j hj r hr
    by_cases e : i = X.n
    · simp only [GX.put, if_pos e] at hr
      cases hr
    · simp only [GX.put, if_neg e] at hi hr
      have hv := h.cat i (by omega) j hj r hr
      refine ⟨hv.1.same fun b hb => ?_, hv.2⟩
      obtain ⟨-, c2, hc⟩ := hv.1.block hb
      exact (hk _ _ _ hc).trans hc.symm
  · intro i1 j1 i2 j2 h1 h2 h3 h4 hne b'
    simp only [GX.put] at h1 h2 ⊢
    by_cases e1 : i1 = X.n
    · rw [if_pos e1, hnb]; intro q; cases q
    · rw [if_neg e1]
      by_cases e2 : i2 = X.n
      · rw [if_pos e2, hnb]; intro _ q; cases q
      · rw [if_neg e2]; exact h.ap i1 j1 i2 j2 (by omega) (by omega) h3 h4 hne b'
  · intro i1 i2 h1 h2
    simp only [GX.put] at h1 h2 ⊢
    by_cases e1 : i1 = X.n
    · by_cases e2 : i2 = X.n
      · intro _; omega
      · rw [if_pos e1, if_neg e2]; intro q; exact absurd q.symm (hn i2 (by omega))
    · by_cases e2 : i2 = X.n
      · rw [if_neg e1, if_pos e2]; intro q; exact absurd q (hn i1 (by omega))
      · rw [if_neg e1, if_neg e2]; exact h.fi i1 i2 (by omega) (by omega)
/-- What a look-up finds: nothing, or one more than the place. -/
def plc (X : GX) (φ : Int) (u : Nat) : Prop := ((∀ i, i < X.n → X.f i ≠ φ) ∧ u = 0) ∨ ∃ i, i < X.n ∧ X.f i = φ ∧ u = i + 1
theorem HJ.look {B : Nat} {w : World} {mb : Nat} {X : GX} (h : HJ B w mb X) {φ : Int} (hwf : (iL φ).wf = true) (u : Nat) (hu : plc X φ u) :
    (Instr.lookup 78 (.map (some mb)) (.int .i64 φ) false).run Try.prog w = .ok (.int .i64 (u : Nat)) w := by
  obtain ⟨D, h1, h2⟩ := h.map
  obtain ⟨c, hr, h3, -⟩ := h1.lookup_int law3 Try.underlying78 Try.underlying3 (by kernel_rfl) (keyOf_int_mk Try.underlying3 hwf)
  rw [hr]
  have e : c = (u : Nat) := by
    rcases hu with ⟨hu, rfl⟩ | ⟨i, hi, rfl, rfl⟩
    · have := h2.miss φ hu
      rw [show iL φ = Lit.int .i64 φ from rfl, h3] at this
      simp at this; omega
    · have := h2.hit i hi
      rw [show iL (X.f i) = Lit.int .i64 (X.f i) from rfl, h3] at this
      simp at this; omega
  rw [e]
end Go.Proofs.Ytaogjiffnebnkaa
set_option linter.unusedVariables false
set_option linter.unusedSimpArgs false
namespace Go.Proofs.Ytaogjiffnebnkaa
open Go.RowKit Go.Shelf Go.Maps
theorem OwnL.at {B : Nat} {w : World} {g n cap : Nat} {K : List Li} (h : OwnL B w (.slice (some ⟨g, 0, none⟩) n cap) K) {j : Nat} (hj : j < K.length) : Ls.At w g j (K.getD j Ls.d0) := by
  rcases h.2 with ⟨h1, _⟩ | ⟨g', cap', cur, hv, hg, hh, h1, h2, h3, h4⟩
  · cases h1
  · simp only [Value.slice.injEq, Option.some.injEq, Addr.mk.injEq, and_true] at hv
    obtain ⟨rfl, rfl, rfl⟩ := hv
    have e : ∀ i, i < 4 → cur[j * 4 + i]? = (UL [K.getD j Ls.d0])[i]? := by
      intro i hi
      rw [← UL_get K j i hj hi, ← h4, List.getElem?_take, if_pos (by omega), Array.getElem?_toList]
    have c : ∀ i u, i < 4 → (UL [K.getD j Ls.d0])[i]? = some u → w.cell? ⟨g, j * 4 + i, none⟩ = some u := fun i u hi hu => by rw [cell_of_row w g _ cur 33 (0, 0) hh, e i hi, hu]
    exact ⟨c 0 _ (by omega) rfl, c 1 _ (by omega) rfl, c 2 _ (by omega) rfl, c 3 _ (by omega) rfl, frozen_of_row w g _ cur 33 hh, frozen_of_row w g _ cur 33 hh, frozen_of_row w g _ cur 33 hh, frozen_of_row w g _ cur 33 hh⟩
theorem OwnL.put {B : Nat} {w : World} {g n cap : Nat} {K : List Li} (h : OwnL B w (.slice (some ⟨g, 0, none⟩) n cap) K) (j : Nat) (x : Li) (hj : j < K.length) : OwnL B (Ls.put w g j x) (.slice (some ⟨g, 0, none⟩) n cap) (K.set j x) := by
  rcases h.2 with ⟨h1, _⟩ | ⟨g', cap', cur, hv, hg, hh, h1, h2, h3, h4⟩
  · cases h1
  · simp only [Value.slice.injEq, Option.some.injEq, Addr.mk.injEq, and_true] at hv
    obtain ⟨rfl, rfl, rfl⟩ := hv
    refine ⟨by rw [UL_length], .inr ⟨g, cap, _, by rw [List.length_set], hg, heap_setCell_same _ g (j * 4 + 3) _ 33 _ (heap_setCell_same _ g (j * 4 + 2) _ 33 _ (heap_setCell_same _ g (j * 4 + 1) _ 33 _ (heap_setCell_same _ g (j * 4) _ 33 _ hh))), by rw [List.length_set]; exact h1, h2, ?_, ?_⟩⟩
    · simp; exact h3
    · rw [List.length_set, Ls.U_set K j x hj, ← h4]
      simp only [Array.toList_setIfInBounds, List.take_set]
theorem OwnL.keep {B : Nat} {w w' : World} {v : Value} {K : List Li} (h : OwnL B w v K) (k : Keep w w') : OwnL B w' v K :=
  h.same (fun b hb => by obtain ⟨_, cur, hh⟩ := h.block hb; exact k.block b (Array.getElem?_eq_some_iff.1 hh).1)
theorem OwnL.shape {B : Nat} {w : World} {v : Value} {K : List Li} (h : OwnL B w v K) (h0 : 0 < K.length) : ∃ g cap, v = .slice (some ⟨g, 0, none⟩) K.length cap ∧ B ≤ g ∧ ∃ cur : Array Value, w.heap[g]? = some (.cells cur 33 (0, 0)) := by
  rcases h.2 with ⟨h1, h2⟩ | ⟨g, cap, cur, hv, hg, hh, r⟩
  · omega
  · exact ⟨g, cap, hv, hg, cur, hh⟩
theorem OwnL.slice {B : Nat} {w : World} {v : Value} {K : List Li} (h : OwnL B w v K) : ∃ a c, v = .slice a K.length c := by
  rcases h.2 with ⟨h1, h2⟩ | ⟨g, cap, cur, hv, -⟩
  · exact ⟨none, 0, by rw [h1, h2]⟩
  · exact ⟨_, _, hv⟩
def Nd.cells (d : Nd) (ca : Option Addr) (cap : Nat) : Array Value := #[.int .u8 d.kd, .int .i64 d.vl, .int .i64 d.ft, .float .f64 d.th, .slice ca d.cs.length cap, .int .u8 d.ms, .int .i64 d.lf, .int .i64 d.rt]
/-- What stands in a round of the reference's Of: the node in its box nb, the cut in its box cb, the rows of X, the lists T. -/
structure RS (w0 w2 : World) (mb : Nat) (vo : Value) (T : List Li) (X : GX) (nb cb : Nat) (d : Nd) (nca : Option Addr) (ncp : Nat) (N : Ct) (va : Option Addr) (cc : Nat) (W : World) : Prop where
  G : HJ w0.heap.size W mb X
  out : OwnL w0.heap.size W vo T
  k0 : Keep w0 W
  kt : KT w2 W
  n : W.heap[nb]? = some (Obj.cells (d.cells nca ncp) 83 (0, 0))
  c : W.heap[cb]? = some (Obj.cells (N.cells va cc) 57 (0, 0))
  z : OwnZ 3 w0.heap.size W (.slice va N.cs.length cc) N.cs
  zs : N.cs.length ≤ 17592186044416
  ne : ∀ i j, i < X.n → j < 3 → (X.v i j).ownBlock ≠ some cb
section
variable {w0 w2 W : World} {mb : Nat} {vo : Value} {T : List Li} {X : GX} {nb cb : Nat} {d : Nd} {nca : Option Addr} {ncp : Nat} {N : Ct} {va : Option Addr} {cc : Nat}
theorem RS.keep (h : RS w0 w2 mb vo T X nb cb d nca ncp N va cc W) {W2 : World} (k : Keep W W2) : RS w0 w2 mb vo T X nb cb d nca ncp N va cc W2 :=
  ⟨h.G.keep k, h.out.keep k, Keep.trans h.k0 k, h.kt.trans (KT.of_keep k), (k.block _ (Array.getElem?_eq_some_iff.1 h.n).1).trans h.n, (k.block _ (Array.getElem?_eq_some_iff.1 h.c).1).trans h.c, h.z.keep k, h.zs, h.ne⟩
theorem RS.nd (h : RS w0 w2 mb vo T X nb cb d nca ncp N va cc W) : W.cell? ⟨nb, 0, none⟩ = some (.int .u8 d.kd) ∧ W.cell? ⟨nb, 2, none⟩ = some (.int .i64 d.ft) ∧ W.cell? ⟨nb, 5, none⟩ = some (.int .u8 d.ms) :=
  ⟨by rw [cell_of_row W nb 0 _ 83 (0, 0) h.n]; rfl, by rw [cell_of_row W nb 2 _ 83 (0, 0) h.n]; rfl, by rw [cell_of_row W nb 5 _ 83 (0, 0) h.n]; rfl⟩
theorem RS.ct (h : RS w0 w2 mb vo T X nb cb d nca ncp N va cc W) : W.cell? ⟨cb, 0, none⟩ = some (.float .f64 N.th) ∧ W.cell? ⟨cb, 1, none⟩ = some (.slice va N.cs.length cc) ∧ W.cell? ⟨cb, 2, none⟩ = some (.int .i64 N.tr) ∧ W.cell? ⟨cb, 3, none⟩ = some (.int .i64 N.fr) ∧ W.cell? ⟨cb, 4, none⟩ = some (.int .i64 N.to) :=
  ⟨by rw [cell_of_row W cb 0 _ 57 (0, 0) h.c]; rfl, by rw [cell_of_row W cb 1 _ 57 (0, 0) h.c]; rfl, by rw [cell_of_row W cb 2 _ 57 (0, 0) h.c]; rfl, by rw [cell_of_row W cb 3 _ 57 (0, 0) h.c]; rfl, by rw [cell_of_row W cb 4 _ 57 (0, 0) h.c]; rfl⟩
/-- Blocks of lists written or grown, that are no box of the round. -/
theorem RS.lists (h : RS w0 w2 mb vo T X nb cb d nca ncp N va cc W) {W2 : World} {v' : Value} {T' : List Li} (ho : OwnL w0.heap.size W2 v' T') (g : W.grownBy W2 vo.ownBlock) : RS w0 w2 mb v' T' X nb cb d nca ncp N va cc W2 := by
  have hk : ∀ (b : Nat) (o : Obj), W.heap[b]? = some o → (∀ cur, o ≠ .cells cur 33 (0, 0)) → W2.heap[b]? = some o := by
    intro b o hb hn
    refine (g.block b (Array.getElem?_eq_some_iff.1 hb).1 fun e => ?_).trans hb
    obtain ⟨-, c2, hc⟩ := h.out.block e.symm
    rw [hb] at hc
    exact hn c2 (Option.some.inj hc)
  refine ⟨h.G.same (fun es clock hb => hk _ _ hb (fun cur e => by cases e)) (fun b cur ty hb ht => hk _ _ hb (fun c e => by cases e; rcases ht with ht | ht <;> cases ht)), ho, ?_, ?_, hk _ _ h.n (fun c e => by cases e), hk _ _ h.c (fun c e => by cases e), ?_, h.zs, h.ne⟩
  · exact Below.grown h.k0 g h.k0.le (fun b hb => (h.out.block hb).1)
  · refine h.kt.trans ⟨g.size, fun b cur ty hb h33 _ => hk _ _ hb (fun c e => by cases e; exact h33 rfl)⟩
  · refine h.z.same fun b hb => ?_
    obtain ⟨-, c2, hc⟩ := h.z.block hb
    exact (hk _ _ hc (fun c e => by cases e)).trans hc.symm
/-- The box of a list: its feature and its rows. -/
structure XB (W : World) (vo : Value) (xb i : Nat) (X : GX) (B : Nat) : Prop where
  x : W.heap[xb]? = some (Obj.cells #[.int .i64 (X.f i), X.v i 0, X.v i 1, X.v i 2] 33 (0, 0))
  no : vo.ownBlock ≠ some xb
  le : B ≤ xb
theorem XB.cells {i xb B : Nat} (h : XB W vo xb i X B) : W.cell? ⟨xb, 0, none⟩ = some (.int .i64 (X.f i)) ∧ W.cell? ⟨xb, 1, none⟩ = some (X.v i 0) ∧ W.cell? ⟨xb, 2, none⟩ = some (X.v i 1) ∧ W.cell? ⟨xb, 3, none⟩ = some (X.v i 2) ∧ W.frozen? ⟨xb, 1, none⟩ = false ∧ W.frozen? ⟨xb, 2, none⟩ = false ∧ W.frozen? ⟨xb, 3, none⟩ = false :=
  ⟨by rw [cell_of_row W xb 0 _ 33 (0, 0) h.x]; rfl, by rw [cell_of_row W xb 1 _ 33 (0, 0) h.x]; rfl, by rw [cell_of_row W xb 2 _ 33 (0, 0) h.x]; rfl, by rw [cell_of_row W xb 3 _ 33 (0, 0) h.x]; rfl, frozen_of_row W xb 1 _ 33 h.x, frozen_of_row W xb 2 _ 33 h.x, frozen_of_row W xb 3 _ 33 h.x⟩
theorem XB.keep {i xb B : Nat} (h : XB W vo xb i X B) {W2 : World} (k : Keep W W2) : XB W2 vo xb i X B := ⟨(k.block _ (Array.getElem?_eq_some_iff.1 h.x).1).trans h.x, h.no, h.le⟩
/-- A row of the list in the box, in another's place. -/
theorem RS.rep (h : RS w0 w2 mb vo T X nb cb d nca ncp N va cc W) {i j xb : Nat} (hi : i < X.n) (hj : j < 3) (hx : XB W vo xb i X w0.heap.size) {w5 : World} {v' : Value} {K' : List CI} (hO5 : OwnC w0.heap.size w5 v' K') (hK' : ∀ r ∈ K', r ∈ X.K i j ∨ r = (N, va, cc))
    (g5 : W.grownBy w5 (X.v i j).ownBlock) (hv : v'.ownBlock = (X.v i j).ownBlock ∨ ∃ b, v'.ownBlock = some b ∧ W.heap.size ≤ b) :
    XB w5 vo xb i X w0.heap.size ∧ RS w0 w2 mb vo T (X.rep i j v' K') nb cb d nca ncp N va cc (w5.setCell ⟨xb, j + 1, none⟩ v') ∧ XB (w5.setCell ⟨xb, j + 1, none⟩ v') vo xb i (X.rep i j v' K') w0.heap.size := by
  have hrow := h.G.row i hi j hj
  have hk : ∀ (b : Nat) (o : Obj), W.heap[b]? = some o → (∀ cur, o ≠ .cells cur 57 (0, 0)) → w5.heap[b]? = some o := by
    intro b o hb hn
    refine (g5.block b (Array.getElem?_eq_some_iff.1 hb).1 fun e => ?_).trans hb
    obtain ⟨-, c2, hc⟩ := hrow.block e.symm
    rw [hb] at hc
    exact hn c2 (Option.some.inj hc)
  have hx5 : XB w5 vo xb i X w0.heap.size := ⟨hk _ _ hx.x (fun c e => by cases e), hx.no, hx.le⟩
  have hs : ∀ (b : Nat) (o : Obj), w5.heap[b]? = some o → (∀ cur, o ≠ .cells cur 33 (0, 0)) → (w5.setCell ⟨xb, j + 1, none⟩ v').heap[b]? = some o := by
    intro b o hb hn
    rw [neq_set _ _ _ _ b (fun e => by rw [e, hx5.x] at hb; exact hn _ (Option.some.inj hb).symm), hb]
  have hG5 := h.G.rep hi hj hO5 (fun r hr => (hK' r hr).imp id fun e => by rw [e]; exact ⟨h.z, h.zs⟩) g5 hv
  have h6 := heap_setCell_same w5 xb (j + 1) _ 33 v' hx5.x
  refine ⟨hx5, ⟨?_, ?_, ?_, ?_, ?_, ?_, ?_, h.zs, ?_⟩, ⟨?_, hx.no, hx.le⟩⟩
  · exact hG5.same (fun es clock hb => hs _ _ hb (fun c e => by cases e)) (fun b cur ty hb ht => hs _ _ hb (fun c e => by cases e; rcases ht with ht | ht <;> cases ht))
  · refine h.out.same fun b hb => ?_
    obtain ⟨-, c2, hc⟩ := h.out.block hb
    rw [neq_set _ _ _ _ b (fun e => h.2 |> fun _ => hx.no (by rw [hb, e])), hk _ _ hc (fun c e => by cases e), hc]
  · exact (Below.grown h.k0 g5 h.k0.le (fun b hb => (hrow.block hb).1)).setCell hx.le _
  · exact (h.kt.trans (KT.row g5 hrow)).trans (KT.set hx5.x)
  · exact hs _ _ (hk _ _ h.n (fun c e => by cases e)) (fun c e => by cases e)
  · refine hs _ _ ?_ (fun c e => by cases e)
    rw [g5.block cb (Array.getElem?_eq_some_iff.1 h.c).1 (fun e => h.ne i j hi hj e.symm), h.c]
  · refine h.z.same fun b hb => ?_
    obtain ⟨-, c2, hc⟩ := h.z.block hb
    exact (hs _ _ (hk _ _ hc (fun c e => by cases e)) (fun c e => by cases e)).trans hc.symm
  · intro i' j' hi' hj'
    simp only [GX.rep]
    by_cases e : i' = i ∧ j' = j
    · rw [if_pos e]
      rcases hv with hv | ⟨b, hv, hb⟩
      · rw [hv]; exact h.ne i j hi hj
      · rw [hv]
        intro q
        have := (Array.getElem?_eq_some_iff.1 h.c).1
        cases q; omega
    · rw [if_neg e]; exact h.ne i' j' hi' hj'
  · rw [h6]
    rcases (by omega : j = 0 ∨ j = 1 ∨ j = 2) with rfl | rfl | rfl <;> simp [GX.rep]
end
end Go.Proofs.Ytaogjiffnebnkaa
set_option linter.unusedVariables false
set_option linter.unusedSimpArgs false
namespace Go.Proofs.Ytaogjiffnebnkaa
open Go.RowKit Go.Shelf Go.Maps
/-- What stands in the reference's rows, the feature φ being among them. -/
structure ConM (X : GX) (S : List (Nd × Ct)) (P : Int → Prop) : Prop where
  con : ∀ i, i < X.n → ∀ j, j < 3 → j ≠ 0 → (X.K i j).map (fun r => r.1) = sel S (X.f i) j
  num : ∀ i, i < X.n → srt Cu.kI (X.K i 0) ∧ ∃ G : List CI, G.map (fun r => r.1) = sel S (X.f i) 0 ∧ eqv Cu.kI (X.K i 0) G
  mem : ∀ ψ, ((∃ s ∈ S, s.1.ft = ψ) ∨ P ψ) ↔ ∃ i, i < X.n ∧ X.f i = ψ
abbrev ConR (X : GX) (S : List (Nd × Ct)) : Prop := ConM X S fun _ => False
theorem ConR.nil : ConR GX.nil [] := ⟨fun i hi => by simp [GX.nil] at hi, fun i hi => by simp [GX.nil] at hi, fun φ => by simp [GX.nil]⟩
theorem ConR.has {X : GX} {S : List (Nd × Ct)} (h : ConR X S) {i : Nat} {φ : Int} (hi : i < X.n) (hf : X.f i = φ) : ConM X S fun ψ => ψ = φ := by
  refine ⟨h.con, h.num, fun ψ => ?_⟩
  rw [← h.mem]
  constructor
  · rintro (q | q)
    · exact .inl q
    · exact (h.mem ψ).2 ⟨i, hi, by rw [hf, q]⟩
  · rintro (q | q)
    · exact .inl q
    · exact q.elim
theorem ConR.put {X : GX} {S : List (Nd × Ct)} (h : ConR X S) {φ : Int} (hn : ∀ i, i < X.n → X.f i ≠ φ) : ConM (X.put φ 0) S fun ψ => ψ = φ := by
  have hs : ∀ s ∈ S, s.1.ft ≠ φ := by
    intro s hs e
    obtain ⟨i, hi, r⟩ := (h.mem φ).1 (.inl ⟨s, hs, e⟩)
    exact hn i hi r
  refine ⟨?_, ?_, fun ψ => ?_⟩
  · intro i hi j hj j0
    simp only [GX.put] at hi ⊢
    by_cases e : i = X.n
    · rw [if_pos e, if_pos e, sel_none hs]; rfl
    · rw [if_neg e, if_neg e]; exact h.con i (by omega) j hj j0
  · intro i hi
    simp only [GX.put] at hi ⊢
    by_cases e : i = X.n
    · rw [if_pos e, if_pos e, sel_none hs]; exact ⟨List.Pairwise.nil, [], rfl, eqv.refl _⟩
    · rw [if_neg e, if_neg e]; exact h.num i (by omega)
  · constructor
    · rintro (q | q)
      · obtain ⟨i, hi, r⟩ := (h.mem ψ).1 (.inl q)
        exact ⟨i, by simp [GX.put]; omega, by simp only [GX.put]; rw [if_neg (by omega)]; exact r⟩
      · exact ⟨X.n, by simp [GX.put], by simp [GX.put, q]⟩
    · rintro ⟨i, hi, r⟩
      simp only [GX.put] at hi r
      by_cases e : i = X.n
      · rw [if_pos e] at r; exact .inr r.symm
      · rw [if_neg e] at r; exact (h.mem ψ).2 ⟨i, by omega, r⟩ |>.imp id fun q => q.elim
/-- One more gathered. -/
theorem ConM.add {X X3 : GX} {S : List (Nd × Ct)} {d : Nd} {N : Ct} {i : Nat} (h : ConM X S fun ψ => ψ = d.ft) (hi : i < X.n) (hf : X.f i = d.ft) (hu : ∀ i', i' < X.n → X.f i' = X.f i → i' = i) (e1 : X3.n = X.n) (e2 : X3.f = X.f)
    (e3 : ∀ i' j', i' < X.n → j' < 3 → j' ≠ 0 → (X3.K i' j').map (fun r => r.1) = (X.K i' j').map (fun r => r.1) ++ (if i' = i ∧ cnd d j' = true then [N] else []))
    (e4 : ∀ i', i' < X.n → ¬ (i' = i ∧ cnd d 0 = true) → X3.K i' 0 = X.K i' 0) (e5 : cnd d 0 = true → srt Cu.kI (X3.K i 0) ∧ ∃ y : CI, y.1 = N ∧ eqv Cu.kI (X3.K i 0) (X.K i 0 ++ [y])) : ConR X3 (S ++ [(d, N)]) := by
  have hc : ∀ i' j', i' < X.n → (d.ft = X.f i' ∧ cnd d j' = true ↔ i' = i ∧ cnd d j' = true) := by
    intro i' j' hi'
    constructor
    · rintro ⟨q, r⟩; exact ⟨hu i' hi' (by rw [hf]; exact q.symm), r⟩
    · rintro ⟨rfl, r⟩; exact ⟨hf.symm, r⟩
  refine ⟨?_, ?_, ?_⟩
  · intro i' hi' j hj j0
    rw [e1] at hi'
    rw [e3 i' j hi' hj j0, h.con i' hi' j hj j0, e2, sel_snoc]
    congr 1
    by_cases q : i' = i ∧ cnd d j = true
    · rw [if_pos q, if_pos ((hc i' j hi').2 q)]
    · rw [if_neg q, if_neg (fun r => q ((hc i' j hi').1 r))]
  · intro i' hi'
    rw [e1] at hi'
    rw [e2, sel_snoc]
    obtain ⟨hs, G, hG, hE⟩ := h.num i' hi'
    by_cases q : i' = i ∧ cnd d 0 = true
    · obtain ⟨rfl, q2⟩ := q
      obtain ⟨f1, y, hy, f2⟩ := e5 q2
      rw [if_pos ((hc i' 0 hi').2 ⟨rfl, q2⟩)]
      exact ⟨f1, G ++ [y], by rw [List.map_append, hG]; simp [hy], f2.trans (eqv.app hE (eqv.refl _))⟩
    · rw [if_neg (fun r => q ((hc i' 0 hi').1 r)), e4 i' hi' q, List.append_nil]
      exact ⟨hs, G, hG, hE⟩
  · intro ψ
    rw [e1, e2, ← h.mem ψ]
    constructor
    · rintro (⟨s, hs, r⟩ | q)
      · rcases List.mem_append.1 hs with hs | hs
        · exact .inl ⟨s, hs, r⟩
        · obtain rfl := List.mem_singleton.1 hs
          exact .inr r.symm
      · exact q.elim
    · rintro (⟨s, hs, r⟩ | q)
      · exact .inl ⟨s, by simp [hs], r⟩
      · exact .inl ⟨(d, N), by simp, q.symm⟩
theorem eqv.perm {α : Type} {key : α → Int} {M l : List α} (h : eqv key M l) : M.Perm l := by
  classical
  rw [List.perm_iff_count]
  intro x
  have h1 := h (key x)
  have h2 := congrArg (List.count x) h1
  rw [List.count_filter (by simp), List.count_filter (by simp)] at h2
  exact h2
theorem eqv.len {α : Type} {key : α → Int} {M l : List α} (h : eqv key M l) : M.length = l.length := h.perm.length_eq
theorem ConM.len {X : GX} {S : List (Nd × Ct)} {P : Int → Prop} (h : ConM X S P) {i j : Nat} (hi : i < X.n) (hj : j < 3) : (X.K i j).length ≤ S.length := by
  have hl : ∀ φ j, (sel S φ j).length ≤ S.length := by
    intro φ j; unfold sel; rw [List.length_map]; exact List.length_filter_le _ _
  by_cases j0 : j = 0
  · subst j0
    obtain ⟨-, G, hG, hE⟩ := h.num i hi
    have e := eqv.len hE
    have := congrArg List.length hG
    rw [List.length_map] at this
    rw [e, this]; exact hl _ _
  · have := congrArg List.length (h.con i hi j hj j0)
    rw [List.length_map] at this
    rw [this]; exact hl _ _
/-- The lists as items. -/
def its (X : GX) : List Li := (List.range X.n).map (item X)
theorem its_len (X : GX) : (its X).length = X.n := by simp [its]
end Go.Proofs.Ytaogjiffnebnkaa
