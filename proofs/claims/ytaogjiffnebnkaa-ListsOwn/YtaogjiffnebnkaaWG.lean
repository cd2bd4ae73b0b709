import Derived.Test.YtaogjiffnebnkaaWE
import Derived.Test.YtaogjiffnebnkaaX3
set_option linter.unusedVariables false
set_option linter.unusedSimpArgs false
namespace Go.Proofs.Ytaogjiffnebnkaa.Ow
open Go.RowKit Go.Shelf Go.Maps
/-- Copied, with its length as a letter. -/
theorem cop_src (a : Option Addr) (c : Nat) (L : List Ct) (n : Nat) (hn : L.length = n) (w : World) (hLn : n ≤ 268435456) (ha : RdC w a L) :
    Calls Try.prog 14 #[.slice a n c] w fun e w' => ∃ v K, e = .returned v ∧ OC L w v w' K := by
  subst hn
  exact (CopiedB_any a c L w (by omega) ha).mono fun e w' ⟨v, he, K, h⟩ => ⟨v, K, he, h⟩
/-- What is gathered has one reading. -/
theorem isL_one {S : List (Nd × Ct)} {T T' : List Lst} (h : IsL S T) (h' : IsL S T') : T = T' := by
  have hL : T.map Lst.ft = T'.map Lst.ft := by
    refine rise_ext (by rw [List.pairwise_map]; exact h.rise) (by rw [List.pairwise_map]; exact h'.rise) fun φ => ?_
    rw [List.mem_map, List.mem_map]
    exact (h.mem φ).symm.trans (h'.mem φ)
  have hlen : T.length = T'.length := by have := congrArg List.length hL; simpa using this
  refine List.ext_getElem hlen fun j h1 h2 => ?_
  have hf : T[j].ft = T'[j].ft := by
    have := congrArg (fun l => l[j]?) hL
    simp [List.getElem?_map, h1, h2] at this
    exact this
  have m1 : T[j] ∈ T := List.getElem_mem _
  have m2 : T'[j] ∈ T' := List.getElem_mem _
  generalize T[j] = t at *
  generalize T'[j] = t' at *
  have e1 := h.cs t m1
  have e2 := h.ls t m1
  have e3 := h'.cs t' m2
  have e4 := h'.ls t' m2
  obtain ⟨s1, v1⟩ := h.ns t m1
  obtain ⟨s2, v2⟩ := h'.ns t' m2
  have e0 : t.ns = t'.ns := one s1 s2 (v1.trans (by rw [hf]; exact v2.symm))
  obtain ⟨f, ns, cs, ls⟩ := t
  obtain ⟨f', ns', cs', ls'⟩ := t'
  simp only at *
  subst hf e0
  rw [e1, e2, e3, e4]
/-- An answer of Of, as it lies. -/
structure AL (w0 w : World) (v : Value) (Y : GX) (A : List Nat) : Prop where
  gw : GW w0.heap.size w Y
  cd : CD Y
  nd : A.Nodup
  mem : ∀ i ∈ A, i < Y.n
  row : (v = .slice none 0 0 ∧ A = []) ∨ ∃ g c, ∃ cur : Array Value, v = .slice (some ⟨g, 0, none⟩) A.length c ∧ w0.heap.size ≤ g ∧ w.heap[g]? = some (.cells cur 33 (0, 0)) ∧ cur.toList.take (A.length * 4) = UL (A.map (item Y))
  bd : ∀ i ∈ A, ∀ j, j < 3 → (Y.K i j).length ≤ 268435456
  ln : A.length ≤ 1099511627776
/-- What it says. -/
def lof (Y : GX) (A : List Nat) : List Lst := A.map (lstP Y fun i => Y.K i 0)
theorem lof_len (Y : GX) (A : List Nat) : (lof Y A).length = A.length := by unfold lof; rw [List.length_map]
theorem lof_wth (X : GX) (M : Nat → List CI) (A : List Nat) : lof (X.wth M) A = A.map (lstP X M) := by
  unfold lof
  congr 1
theorem AL.same {w0 w w' : World} {v : Value} {Y : GX} {A : List Nat} (h : AL w0 w v Y A) (k : ∀ b, w0.heap.size ≤ b → b < w.heap.size → w'.heap[b]? = w.heap[b]?) : AL w0 w' v Y A := by
  refine ⟨⟨fun i hi => ⟨(h.gw.box i hi).1, ?_⟩, fun i hi j hj => (h.gw.row i hi j hj).same fun b hb => ?_, fun i hi j hj r hr => ⟨(h.gw.cat i hi j hj r hr).1.same fun b hb => ?_, (h.gw.cat i hi j hj r hr).2⟩, h.gw.ap⟩, h.cd, h.nd, h.mem, ?_, h.bd, h.ln⟩
  · obtain ⟨h1, h2⟩ := h.gw.box i hi
    exact (k _ h1 (Array.getElem?_eq_some_iff.1 h2).1).trans h2
  · obtain ⟨h1, c, h2⟩ := (h.gw.row i hi j hj).block hb
    exact k _ h1 (Array.getElem?_eq_some_iff.1 h2).1
  · obtain ⟨h1, c, h2⟩ := (h.gw.cat i hi j hj r hr).1.block hb
    exact k _ h1 (Array.getElem?_eq_some_iff.1 h2).1
  · rcases h.row with q | ⟨g, c, cur, q1, q2, q3, q4⟩
    · exact .inl q
    · exact .inr ⟨g, c, cur, q1, q2, (k _ q2 (Array.getElem?_eq_some_iff.1 q3).1).trans q3, q4⟩
theorem AL.rw {w0 w : World} {v : Value} {Y : GX} {A : List Nat} (h : AL w0 w v Y A) {i : Nat} (hi : i ∈ A) {j : Nat} (hj : j < 3) : Rw w0.heap.size w (Y.v i j) (Y.K i j) := ⟨h.gw.row i (h.mem i hi) j hj, h.gw.cat i (h.mem i hi) j hj⟩
/-- No block is shared. -/
theorem AL.apart {w0 w : World} {v : Value} {Y : GX} {A : List Nat} (h : AL w0 w v Y A) {i j i' j' : Nat} (hi : i ∈ A) (hj : j < 3) (hi' : i' ∈ A) (hj' : j' < 3) (hne : i ≠ i' ∨ j ≠ j') {b : Nat} (h1 : bl (Y.v i j) (Y.K i j) b) (h2 : bl (Y.v i' j') (Y.K i' j') b) : False := by
  have r1 := h.rw hi hj
  have r2 := h.rw hi' hj'
  rcases h1 with h1 | ⟨r, hr, h1⟩
  · obtain ⟨-, c, hc⟩ := r1.row.block h1
    rcases h2 with h2 | ⟨r', hr', h2⟩
    · exact h.gw.ap i j i' j' (h.mem i hi) (h.mem i' hi') hj hj' hne b h1 h2
    · rw [blk_any _ _ _ r'.1.cs.length r'.2.2] at h2
      obtain ⟨-, c2, hc2⟩ := (r2.cat r' hr').1.block h2
      rw [hc] at hc2; simp at hc2
  · have h1' := h1
    rw [blk_any _ _ _ r.1.cs.length r.2.2] at h1'
    obtain ⟨-, c, hc⟩ := (r1.cat r hr).1.block h1'
    rcases h2 with h2 | ⟨r', hr', h2⟩
    · obtain ⟨-, c2, hc2⟩ := r2.row.block h2
      rw [hc] at hc2; simp at hc2
    · exact h.cd i j i' j' (h.mem i hi) (h.mem i' hi') hj hj' hne r hr r' hr' b h1 h2
theorem AL.rd {w0 w : World} {v : Value} {Y : GX} {A : List Nat} (h : AL w0 w v Y A) : ∃ a c, v = .slice a A.length c ∧ RdL w a (lof Y A) := by
  have hrow : RowL w v (A.map (item Y)) := by
    rcases h.row with ⟨e1, e2⟩ | ⟨g, c, cur, e1, -, e2, e3⟩
    · exact .inl ⟨e1, by rw [e2]; rfl⟩
    · exact .inr ⟨g, c, cur, by rw [List.length_map]; exact e1, e2, by rw [List.length_map]; exact e3⟩
  have e : ∀ i j, (Y.wth fun i => Y.K i 0).K i j = Y.K i j := by
    intro i j
    simp only [GX.wth]
    split
    · rename_i q; rw [q]
    · rfl
  exact hrow.rd (M := fun i => Y.K i 0) (fun i hi j hj => by rw [e]; exact (h.rw hi hj).row) (fun i hi j hj => by rw [e]; exact (h.rw hi hj).cat) (fun i hi j hj => by rw [e]; have := h.bd i hi j hj; omega)
theorem sl_of {v : Value} {a : Option Addr} {n c : Nat} (h : v = .slice a n c) : Value.slice (sl v).1 (sl v).2.1 (sl v).2.2 = v := by rw [h]; rfl
/-- One of its lists. -/
theorem AL.at {w0 w : World} {v : Value} {Y : GX} {A : List Nat} (h : AL w0 w v Y A) {k : Nat} (hk : k < A.length) : ∃ g c, v = .slice (some ⟨g, 0, none⟩) A.length c ∧ w0.heap.size ≤ g ∧ (∃ cur, w.heap[g]? = some (.cells cur 33 (0, 0))) ∧
    w.cell? ⟨g, k * 4, none⟩ = some (.int .i64 (Y.f (A.getD k 0))) ∧ w.cell? ⟨g, k * 4 + 1, none⟩ = some (Y.v (A.getD k 0) 0) ∧ w.cell? ⟨g, k * 4 + 2, none⟩ = some (Y.v (A.getD k 0) 1) ∧ w.cell? ⟨g, k * 4 + 3, none⟩ = some (Y.v (A.getD k 0) 2) := by
  rcases h.row with ⟨e1, e2⟩ | ⟨g, c, cur, e1, hg, e2, e3⟩
  · rw [e2] at hk; simp at hk
  · refine ⟨g, c, e1, hg, ⟨cur, e2⟩, ?_⟩
    have hi : A.getD k 0 ∈ A := by
      have : A.getD k 0 = A[k] := by simp [List.getD, hk]
      rw [this]; exact List.getElem_mem _
    have et : (A.map (item Y)).getD k li0 = item Y (A.getD k 0) := by simp [List.getD, hk]
    have hu : ∀ i u, i < 4 → (UL [item Y (A.getD k 0)])[i]? = some u → w.cell? ⟨g, k * 4 + i, none⟩ = some u := by
      intro i u hi' hu
      have e1 : cur.toList[k * 4 + i]? = (UL (A.map (item Y)))[k * 4 + i]? := by rw [← e3, List.getElem?_take, if_pos (by omega)]
      rw [cell_of_row w g _ cur 33 (0, 0) e2, ← hu, ← et, ← UL_get (A.map (item Y)) k i (by simpa using hk) hi', ← e1]; simp
    generalize A.getD k 0 = i at *
    obtain ⟨a0, c0, q0⟩ := (h.rw hi (j := 0) (by omega)).row.slice
    obtain ⟨a1, c1, q1⟩ := (h.rw hi (j := 1) (by omega)).row.slice
    obtain ⟨a2, c2, q2⟩ := (h.rw hi (j := 2) (by omega)).row.slice
    refine ⟨hu 0 _ (by omega) rfl, ?_, ?_, ?_⟩
    · rw [← sl_of q0]; exact hu 1 _ (by omega) rfl
    · rw [← sl_of q1]; exact hu 2 _ (by omega) rfl
    · rw [← sl_of q2]; exact hu 3 _ (by omega) rfl
/-- What it says of one of them. -/
theorem lof_at (Y : GX) {A : List Nat} {k : Nat} (hk : k < A.length) : A.getD k 0 ∈ A ∧ (lof Y A).getD k lst0 = ⟨Y.f (A.getD k 0), (Y.K (A.getD k 0) 0).map (fun r => r.1), (Y.K (A.getD k 0) 1).map (fun r => r.1), (Y.K (A.getD k 0) 2).map (fun r => r.1)⟩ := by
  refine ⟨?_, ?_⟩
  · have : A.getD k 0 = A[k] := by simp [List.getD, hk]
    rw [this]; exact List.getElem_mem _
  · unfold lof
    simp [List.getD, hk, lstP]
theorem AL.nil (w0 w : World) : AL w0 w (.slice none 0 0) GX.nil [] := ⟨⟨fun i hi => by simp [GX.nil] at hi, fun i hi => by simp [GX.nil] at hi, fun i hi => by simp [GX.nil] at hi, fun i _ _ _ hi => by simp [GX.nil] at hi⟩, CD.nil, List.nodup_nil, fun i hi => by simp at hi, .inl ⟨rfl, rfl⟩, fun i hi => by simp at hi, by simp⟩
/-- What Of answers, in all its depth. -/
theorem Of_all (a : Option Addr) (cap : Nat) (ts : List (Int × List Nd)) (n : Nat) (hn : ts.length = n) (F : Int) (w : World) (ht : RdT w a ts) :
    Calls Try.prog 10 #[.slice a n cap, .int .i64 F] w fun e w' => ∃ v Y A, e = .returned (.tuple #[v, .int .i64 (ofE ts F)]) ∧ Keep w w' ∧ AL w w' v Y A ∧ (ofE ts F ≠ 0 → A = []) ∧ (ofE ts F = 0 → IsL (gall ts) (lof Y A)) := by
  subst hn
  refine (Of_own a cap ts F w ht).mono fun e w' h => ?_
  obtain ⟨v, rfl, k, h1, h2⟩ := h
  by_cases q : ofE ts F = 0
  · obtain ⟨X, A, M, hX, hA, hD⟩ := h2 q
    have hln : A.length ≤ 1099511627776 := by
      obtain ⟨_, _, _, _, b⟩ := of_rd q hX hA
      rw [List.length_map] at b
      exact b
    obtain ⟨g1, g2⟩ := ofE_small q
    have hg := gall_len g2 ts.length (Nat.le_refl _)
    rw [List.take_length] at hg
    obtain ⟨hW, hl, hP, hm, hM, hv⟩ := hA
    refine ⟨v, X.wth M, A, rfl, k, ⟨hW, hD, ?_, fun i hi => (hm i).1 hi, ?_, ?_, hln⟩, fun e => absurd q e, fun _ => ?_⟩
    · exact hP.imp fun h e => by rw [e] at h; omega
    · rcases hv with e | ⟨g, c, cur, e1, -, e2, e3, e4, -⟩
      · exact .inl e
      · exact .inr ⟨g, c, cur, e1, e2, e3, e4⟩
    · intro i hi j hj
      have hi' := (hm i).1 hi
      have h3 : (X.K i j).length ≤ (gall ts).length := hX.len hi' hj
      by_cases q : j = 0
      · subst q
        have e : ((X.wth M).K i 0).length = (X.K i 0).length := (hM i hi').2.len
        rw [e]; omega
      · have e : (X.wth M).K i j = X.K i j := by simp only [GX.wth]; rw [if_neg q]
        rw [e]; omega
    · rw [lof_wth]
      exact isL_of hX hP hm hM
  · obtain rfl := h1 q
    exact ⟨_, GX.nil, [], rfl, k, AL.nil _ _, fun _ => rfl, fun e => absurd e q⟩
end Go.Proofs.Ytaogjiffnebnkaa.Ow
set_option linter.unusedVariables false
set_option linter.unusedSimpArgs false
namespace Go.Proofs.Ytaogjiffnebnkaa.Ow
open Go.RowKit Go.Shelf Go.Maps
/-- From a place on the memory is as it was. -/
structure Up (B : Nat) (w w' : World) : Prop where
  size : w.heap.size ≤ w'.heap.size
  kp : ∀ b, B ≤ b → b < w.heap.size → w'.heap[b]? = w.heap[b]?
theorem Up.refl (B : Nat) (w : World) : Up B w w := ⟨Nat.le_refl _, fun _ _ _ => rfl⟩
theorem Up.trans {B : Nat} {a b c : World} (h : Up B a b) (k : Up B b c) : Up B a c := ⟨Nat.le_trans h.size k.size, fun x hB hx => (k.kp x hB (Nat.lt_of_lt_of_le hx h.size)).trans (h.kp x hB hx)⟩
theorem Up.of_keep {a b : World} (k : Keep a b) (B : Nat) : Up B a b := ⟨k.size, fun x _ hx => k.block x hx⟩
theorem Up.of_ext {S : Nat → Prop} {a b : World} {B : Nat} (h : Ext S a b) (hS : ∀ x, S x → x < B) : Up B a b := ⟨h.size, fun x hB hx => h.kp x hx fun q => by have := hS x q; omega⟩
theorem Rw.mono {B B' : Nat} {w : World} {v : Value} {K : List CI} (h : Rw B w v K) (hB : B' ≤ B) : Rw B' w v K := by
  refine ⟨?_, fun r hr => ⟨(h.cat r hr).1.mono hB, (h.cat r hr).2⟩⟩
  rcases h.row with q | ⟨g, cap, cur, hv, hg, r⟩
  · exact .inl q
  · exact .inr ⟨g, cap, cur, hv, Nat.le_trans hB hg, r⟩
theorem Rw.up {B : Nat} {w w' : World} {v : Value} {K : List CI} (h : Rw B w v K) (k : Up B w w') : Rw B w' v K := h.same fun b hb => k.kp b (h.in hb).1 (h.in hb).2
theorem Rw.keep {B : Nat} {w w' : World} {v : Value} {K : List CI} (h : Rw B w v K) (k : Keep w w') : Rw B w' v K := h.up (Up.of_keep k B)
theorem Rw.rdc {B : Nat} {w : World} {a : Option Addr} {n c : Nat} {K : List CI} {L : List Ct} (h : Rw B w (.slice a n c) K) (hL : K.map (fun r => r.1) = L) : RdC w a L ∧ L.length = n ∧ n ≤ c := by
  obtain ⟨a', c', e, r, hc⟩ := h.rd
  simp only [Value.slice.injEq] at e
  obtain ⟨rfl, rfl, rfl⟩ := e
  rw [hL] at r
  exact ⟨r, by rw [← hL, List.length_map], hc⟩
theorem AL.up {w0 w w' : World} {v : Value} {Y : GX} {A : List Nat} (h : AL w0 w v Y A) (k : Up w0.heap.size w w') : AL w0 w' v Y A := h.same k.kp
/-- The blocks of the first lists, and of some rows of the next. -/
def U (Y : GX) (A : List Nat) (k : Nat) (P : Nat → Prop) (b : Nat) : Prop := ∃ k' j, k' < A.length ∧ j < 3 ∧ (k' < k ∨ (k' = k ∧ P j)) ∧ bl (Y.v (A.getD k' 0) j) (Y.K (A.getD k' 0) j) b
theorem getD_mem {A : List Nat} {k : Nat} (hk : k < A.length) : A.getD k 0 ∈ A := by
  have : A.getD k 0 = A[k] := by simp [List.getD, hk]
  rw [this]; exact List.getElem_mem _
theorem getD_inj {A : List Nat} (h : A.Nodup) {k k' : Nat} (hk : k < A.length) (hk' : k' < A.length) (e : A.getD k 0 = A.getD k' 0) : k = k' := by
  have e1 : A.getD k 0 = A[k] := by simp [List.getD, hk]
  have e2 : A.getD k' 0 = A[k'] := by simp [List.getD, hk']
  rw [e1, e2] at e
  exact (List.getElem_inj h).1 e
section
variable {w0 w w' w1 w2 wx wy : World} {v va vb : Value} {Y Yb : GX} {A Ab : List Nat} {k : Nat} {P : Nat → Prop}
theorem AL.Ult (h : AL w0 w v Y A) {b : Nat} (hb : U Y A k P b) : w0.heap.size ≤ b ∧ b < w.heap.size := by
  obtain ⟨k', j, h1, h2, -, h3⟩ := hb
  exact (h.rw (getD_mem h1) h2).in h3
theorem AL.Uno (h : AL w0 w v Y A) {k' j : Nat} (hk : k' < A.length) (hj : j < 3) (hor : k < k' ∨ (k = k' ∧ ¬ P j)) {b : Nat} (hb : bl (Y.v (A.getD k' 0) j) (Y.K (A.getD k' 0) j) b) : ¬ U Y A k P b := by
  rintro ⟨k2, j2, h1, h2, h3, h4⟩
  refine h.apart (getD_mem hk) hj (getD_mem h1) h2 ?_ hb h4
  by_cases e : A.getD k' 0 = A.getD k2 0
  · have e2 := getD_inj h.nd hk h1 e
    subst e2
    right
    rintro rfl
    rcases hor with q | ⟨q, q2⟩
    · rcases h3 with h3 | ⟨h3, h5⟩ <;> omega
    · rcases h3 with h3 | ⟨h3, h5⟩
      · omega
      · exact q2 h5
  · exact .inl e
/-- A block of lists is no block of cuts. -/
theorem AL.Uar (h : AL w0 w v Y A) {g : Nat} {cur : Array Value} (hg : w.heap[g]? = some (.cells cur 33 (0, 0))) : ¬ U Y A k P g := by
  rintro ⟨k', j, h1, h2, -, h3⟩
  have r := h.rw (getD_mem h1) h2
  rcases h3 with h3 | ⟨q, hq, h3⟩
  · obtain ⟨-, c, hc⟩ := r.row.block h3
    rw [hg] at hc; simp at hc
  · rw [blk_any _ _ _ q.1.cs.length q.2.2] at h3
    obtain ⟨-, c, hc⟩ := (r.cat q hq).1.block h3
    rw [hg] at hc; simp at hc
/-- What stands at a stage of a round. -/
theorem stage {ga na ca gb nb cb : Nat} (h1 : AL w0 w1 (.slice (some ⟨ga, 0, none⟩) na ca) Y A) (k12 : Keep w1 w2) (hB : AL w1 w2 (.slice (some ⟨gb, 0, none⟩) nb cb) Yb Ab) (hk : k < A.length) (hkb : k < Ab.length) (E : Ext (U Y A k P) w2 wx) :
    (wx.cell? ⟨ga, k * 4 + 1, none⟩ = some (Y.v (A.getD k 0) 0) ∧ wx.cell? ⟨ga, k * 4 + 2, none⟩ = some (Y.v (A.getD k 0) 1) ∧ wx.cell? ⟨ga, k * 4 + 3, none⟩ = some (Y.v (A.getD k 0) 2)) ∧
    (wx.cell? ⟨gb, k * 4, none⟩ = some (.int .i64 (Yb.f (Ab.getD k 0))) ∧ wx.cell? ⟨gb, k * 4 + 1, none⟩ = some (Yb.v (Ab.getD k 0) 0) ∧ wx.cell? ⟨gb, k * 4 + 2, none⟩ = some (Yb.v (Ab.getD k 0) 1) ∧ wx.cell? ⟨gb, k * 4 + 3, none⟩ = some (Yb.v (Ab.getD k 0) 2)) ∧
    (∀ j, j < 3 → Rw w1.heap.size wx (Yb.v (Ab.getD k 0) j) (Yb.K (Ab.getD k 0) j)) ∧ (∀ j, j < 3 → ¬ P j → Rw w0.heap.size wx (Y.v (A.getD k 0) j) (Y.K (A.getD k 0) j)) := by
  have h2 := h1.up (Up.of_keep k12 _)
  have hU : Up w1.heap.size w2 wx := Up.of_ext E fun x hx => (h1.Ult hx).2
  have hBx := hB.up hU
  obtain ⟨g, c, e, -, ⟨cur, hg⟩, x0, x1, x2, x3⟩ := h2.at hk
  simp only [Value.slice.injEq, Option.some.injEq, Addr.mk.injEq, and_true, true_and] at e
  obtain ⟨rfl, -, rfl⟩ := e
  have hgx : wx.heap[ga]? = w2.heap[ga]? := E.kp ga (Array.getElem?_eq_some_iff.1 hg).1 (h2.Uar hg)
  have hc : ∀ o, wx.cell? ⟨ga, o, none⟩ = w2.cell? ⟨ga, o, none⟩ := fun o => by
    rw [cell_of_row w2 ga o cur 33 (0, 0) hg, cell_of_row wx ga o cur 33 (0, 0) (hgx.trans hg)]
  obtain ⟨g', c', e, -, ⟨cur', hg'⟩, y0, y1, y2, y3⟩ := hBx.at hkb
  simp only [Value.slice.injEq, Option.some.injEq, Addr.mk.injEq, and_true, true_and] at e
  obtain ⟨rfl, -, rfl⟩ := e
  refine ⟨⟨by rw [hc]; exact x1, by rw [hc]; exact x2, by rw [hc]; exact x3⟩, ⟨y0, y1, y2, y3⟩, fun j hj => hBx.rw (getD_mem hkb) hj, fun j hj hP => ?_⟩
  exact (h2.rw (getD_mem hk) hj).ext E fun b hb => h2.Uno hk hj (.inr ⟨rfl, hP⟩) hb
/-- A row is spoilt. -/
theorem stage_next {j : Nat} (hk : k < A.length) (hj : j < 3) (E : Ext (U Y A k P) w2 wx) (hs : Ext (bl (Y.v (A.getD k 0) j) (Y.K (A.getD k 0) j)) wx wy) : Ext (U Y A k fun q => P q ∨ q = j) w2 wy := by
  refine (E.mono fun b _ hb => ?_).trans (hs.mono fun b _ hb => ?_)
  · obtain ⟨k', j', q1, q2, q3, q4⟩ := hb
    exact ⟨k', j', q1, q2, by rcases q3 with q3 | ⟨q3, q5⟩; exact .inl q3; exact .inr ⟨q3, .inl q5⟩, q4⟩
  · exact ⟨k, j, hk, hj, .inr ⟨rfl, .inr rfl⟩, hb⟩
theorem stage_end (E : Ext (U Y A k P) w2 wx) : Ext (U Y A (k + 1) fun _ => False) w2 wx :=
  E.mono fun b _ ⟨k', j', q1, q2, q3, q4⟩ => ⟨k', j', q1, q2, .inl (by rcases q3 with q3 | ⟨q3, -⟩ <;> omega), q4⟩
theorem stage_keep (E : Ext (U Y A k P) w2 wx) (h : Keep wx wy) : Ext (U Y A k P) w2 wy := E.trans (Ext.of_keep h _)
theorem stage_start (w2 : World) : Ext (U Y A 0 fun _ => False) w2 w2 := Ext.of_keep (Keep.refl _) _
/-- A row of the first answer lies below. -/
theorem AL.bl_lt (h : AL w0 w v Y A) (hk : k < A.length) {j : Nat} (hj : j < 3) {b : Nat} (hb : bl (Y.v (A.getD k 0) j) (Y.K (A.getD k 0) j) b) : b < w.heap.size := ((h.rw (getD_mem hk) hj).in hb).2
end
/-- All that a round asks of the two answers. -/
theorem round_facts {v1 v2 v3 : World} {aa ab : Option Addr} {m ca cb : Nat} {Y Yb : GX} {A Ab : List Nat} {k : Nat} (lA : AL v1 v2 (.slice aa m ca) Y A) (k3 : Keep v2 v3) (lB : AL v2 v3 (.slice ab m cb) Yb Ab) (hT : lof Y A = lof Yb Ab) (hk : k < A.length) (hkb : k < Ab.length) :
    ∃ (ga gb : Nat) (F : Int) (L C O : List Ct) (n0 n1 n2 : Nat) (b0 : Option Addr) (c0 : Nat) (b1 : Option Addr) (c1 : Nat) (b2 : Option Addr) (c2 : Nat) (a0 : Option Addr) (d0 : Nat) (a1 : Option Addr) (d1 : Nat) (a2 : Option Addr) (d2 : Nat) (K0 K1 K2 : List CI),
      aa = some ⟨ga, 0, none⟩ ∧ ab = some ⟨gb, 0, none⟩ ∧ (L.length = n0 ∧ C.length = n1 ∧ O.length = n2) ∧ (n0 ≤ 268435456 ∧ n1 ≤ 268435456 ∧ n2 ≤ 268435456) ∧ (n0 ≤ c0 ∧ n1 ≤ c1 ∧ n2 ≤ c2) ∧
      (∀ (P : Nat → Prop) (wx : World), Ext (U Y A k P) v3 wx → (wx.cell? ⟨ga, k * 4 + 1, none⟩ = some (.slice a0 n0 d0) ∧ wx.cell? ⟨ga, k * 4 + 2, none⟩ = some (.slice a1 n1 d1) ∧ wx.cell? ⟨ga, k * 4 + 3, none⟩ = some (.slice a2 n2 d2)) ∧
        (wx.cell? ⟨gb, k * 4, none⟩ = some (.int .i64 F) ∧ wx.cell? ⟨gb, k * 4 + 1, none⟩ = some (.slice b0 n0 c0) ∧ wx.cell? ⟨gb, k * 4 + 2, none⟩ = some (.slice b1 n1 c1) ∧ wx.cell? ⟨gb, k * 4 + 3, none⟩ = some (.slice b2 n2 c2)) ∧
        (RdC wx b0 L ∧ RdC wx b1 C ∧ RdC wx b2 O) ∧ (¬ P 0 → Rw v1.heap.size wx (.slice a0 n0 d0) K0) ∧ (¬ P 1 → Rw v1.heap.size wx (.slice a1 n1 d1) K1) ∧ (¬ P 2 → Rw v1.heap.size wx (.slice a2 n2 d2) K2)) ∧
      (∀ (P : Nat → Prop) (wx wy : World), Ext (U Y A k P) v3 wx → (Ext (bl (.slice a0 n0 d0) K0) wx wy → Ext (U Y A k fun q => P q ∨ q = 0) v3 wy) ∧ (Ext (bl (.slice a1 n1 d1) K1) wx wy → Ext (U Y A k fun q => P q ∨ q = 1) v3 wy) ∧ (Ext (bl (.slice a2 n2 d2) K2) wx wy → Ext (U Y A k fun q => P q ∨ q = 2) v3 wy)) ∧
      K2.map (fun r => r.1) = O ∧ (K0.length = n0 ∧ K1.length = n1 ∧ K2.length = n2) ∧
      (∀ b, bl (.slice a0 n0 d0) K0 b ∨ bl (.slice a1 n1 d1) K1 b ∨ bl (.slice a2 n2 d2) K2 b → b < v2.heap.size) := by
  obtain ⟨ga, _, ea, -⟩ := lA.at hk
  obtain ⟨gb, _, eb, -⟩ := lB.at hkb
  simp only [Value.slice.injEq] at ea eb
  obtain ⟨rfl, -, -⟩ := ea
  obtain ⟨rfl, -, -⟩ := eb
  obtain ⟨iA, eA⟩ := lof_at Y hk
  obtain ⟨iB, eB⟩ := lof_at Yb hkb
  rw [hT, eB] at eA
  simp only [Lst.mk.injEq] at eA
  obtain ⟨fE, e0, e1, e2⟩ := eA
  have hS := fun (P : Nat → Prop) (wx : World) (E : Ext (U Y A k P) v3 wx) => stage lA k3 lB hk hkb E
  have hN := fun (P : Nat → Prop) (wx wy : World) (j : Nat) (hj : j < 3) (E : Ext (U Y A k P) v3 wx) (hs : Ext (bl (Y.v (A.getD k 0) j) (Y.K (A.getD k 0) j)) wx wy) => stage_next (Y := Y) (A := A) hk hj E hs
  have hl := fun (j : Nat) (hj : j < 3) (b : Nat) (hb : bl (Y.v (A.getD k 0) j) (Y.K (A.getD k 0) j) b) => lA.bl_lt hk hj hb
  have hbd := fun (j : Nat) (hj : j < 3) => lB.bd _ iB j hj
  obtain ⟨a0, d0, p0⟩ := (lA.rw iA (j := 0) (by omega)).row.slice
  obtain ⟨a1, d1, p1⟩ := (lA.rw iA (j := 1) (by omega)).row.slice
  obtain ⟨a2, d2, p2⟩ := (lA.rw iA (j := 2) (by omega)).row.slice
  obtain ⟨b0, c0, q0, -, z0⟩ := (lB.rw iB (j := 0) (by omega)).rd
  obtain ⟨b1, c1, q1, -, z1⟩ := (lB.rw iB (j := 1) (by omega)).rd
  obtain ⟨b2, c2, q2, -, z2⟩ := (lB.rw iB (j := 2) (by omega)).rd
  have l0 := congrArg List.length e0
  have l1 := congrArg List.length e1
  have l2 := congrArg List.length e2
  simp only [List.length_map] at l0 l1 l2
  have y0 := hbd 0 (by omega)
  have y1 := hbd 1 (by omega)
  have y2 := hbd 2 (by omega)
  rw [← l0] at p0
  rw [← l1] at p1
  rw [← l2] at p2
  refine ⟨ga, gb, Yb.f (Ab.getD k 0), (Yb.K (Ab.getD k 0) 0).map (fun r => r.1), (Yb.K (Ab.getD k 0) 1).map (fun r => r.1), (Yb.K (Ab.getD k 0) 2).map (fun r => r.1), (Yb.K (Ab.getD k 0) 0).length, (Yb.K (Ab.getD k 0) 1).length, (Yb.K (Ab.getD k 0) 2).length, b0, c0, b1, c1, b2, c2, a0, d0, a1, d1, a2, d2, Y.K (A.getD k 0) 0, Y.K (A.getD k 0) 1, Y.K (A.getD k 0) 2, rfl, rfl, ⟨List.length_map .., List.length_map .., List.length_map ..⟩, ⟨y0, y1, y2⟩, ⟨z0, z1, z2⟩, ?_, ?_, e2.symm, ⟨l0.symm, l1.symm, l2.symm⟩, ?_⟩
  · intro P wx E
    obtain ⟨⟨s1, s2, s3⟩, ⟨t0, t1, t2, t3⟩, rB, rA⟩ := hS P wx E
    rw [p0] at s1
    rw [p1] at s2
    rw [p2] at s3
    rw [q0] at t1
    rw [q1] at t2
    rw [q2] at t3
    have r0 := rB 0 (by omega)
    have r1 := rB 1 (by omega)
    have r2 := rB 2 (by omega)
    have g0 := rA 0 (by omega)
    have g1 := rA 1 (by omega)
    have g2 := rA 2 (by omega)
    rw [q0] at r0
    rw [q1] at r1
    rw [q2] at r2
    rw [p0] at g0
    rw [p1] at g1
    rw [p2] at g2
    exact ⟨⟨s1, s2, s3⟩, ⟨t0, t1, t2, t3⟩, ⟨(r0.rdc rfl).1, (r1.rdc rfl).1, (r2.rdc rfl).1⟩, g0, g1, g2⟩
  · intro P wx wy E
    have g0 := hN P wx wy 0 (by omega) E
    have g1 := hN P wx wy 1 (by omega) E
    have g2 := hN P wx wy 2 (by omega) E
    rw [p0] at g0
    rw [p1] at g1
    rw [p2] at g2
    exact ⟨g0, g1, g2⟩
  · intro b hb
    have g0 := hl 0 (by omega) b
    have g1 := hl 1 (by omega) b
    have g2 := hl 2 (by omega) b
    rw [p0] at g0
    rw [p1] at g1
    rw [p2] at g2
    rcases hb with h | h | h
    · exact g0 h
    · exact g1 h
    · exact g2 h
/-- What was there at the law's start is kept. -/
theorem stage_base {w v1 v2 v3 wx : World} {v : Value} {Y : GX} {A : List Nat} {k : Nat} {P : Nat → Prop} (k1 : Keep w v1) (lA : AL v1 v2 v Y A) (k03 : Keep w v3) (E : Ext (U Y A k P) v3 wx) : Keep w wx :=
  ⟨E.os.trans k03.os, E.tape.trans k03.tape, E.output.trans k03.output, Nat.le_trans k03.size E.size, fun b hb => (E.kp b (Nat.lt_of_lt_of_le hb k03.size) fun hU => by have := (lA.Ult hU).1; have := k1.size; omega).trans (k03.block b hb)⟩
end Go.Proofs.Ytaogjiffnebnkaa.Ow
