import Derived.Test.YtbchinfmdioijaaS26
import Derived.Test.YtbchinfmdioijaaMath3
set_option linter.unusedVariables false
set_option linter.unusedSimpArgs false
namespace Go.Proofs.Ytbchinfmdioijaa
open Go.RowKit Go.Shelf
theorem ord_full {L : List Nd} (h : shE L = 0) : (ord (shp L) L.length).length = L.length := by
  have ht := shE_tr h
  have h1 := ord_len ht.wi
  have h2 := List.Nodup.length_le_of_subset (l₁ := List.range L.length) (l₂ := ord (shp L) L.length) List.nodup_range (fun i hi => ord_all ht (List.mem_range.1 hi))
  rw [List.length_range] at h2
  omega
theorem zip_other : ∀ (l : List Nat) (s : Nat) (a : List Nat) (x : Nat), x ∉ l → ((l.zipIdx s).foldl (fun a y => a.set y.1 y.2) a).getD x 0 = a.getD x 0
  | [], s, a, x, _ => rfl
  | y :: l, s, a, x, h => by
    rw [List.zipIdx_cons, List.foldl_cons, zip_other l (s + 1) _ x (fun e => h (List.mem_cons_of_mem _ e))]
    have hne : y ≠ x := fun e => h (e ▸ List.mem_cons_self ..)
    simp [List.getD, List.getElem?_set, hne]
theorem zip_at : ∀ (l : List Nat) (s : Nat) (a : List Nat) (j : Nat), l.Nodup → (hj : j < l.length) → l[j] < a.length → ((l.zipIdx s).foldl (fun a y => a.set y.1 y.2) a).getD l[j] 0 = s + j
  | [], s, a, j, _, hj, _ => by simp at hj
  | y :: l, s, a, 0, hn, _, hl => by
    rw [List.zipIdx_cons, List.foldl_cons]
    simp only [List.getElem_cons_zero] at hl ⊢
    rw [zip_other l (s + 1) _ y (List.nodup_cons.1 hn).1]
    simp [List.getD, hl]
  | y :: l, s, a, j + 1, hn, hj, hl => by
    rw [List.zipIdx_cons, List.foldl_cons]
    simp only [List.getElem_cons_succ] at hl ⊢
    rw [zip_at l (s + 1) _ j (List.nodup_cons.1 hn).2 (by simpa using hj) (by simpa using hl)]
    omega
/-- anF is the inverse of the order. -/
theorem anF_at {n : Nat} {p : List Nat} (hn : p.Nodup) {j : Nat} (hj : j < p.length) (hl : p[j] < n) : (anF n p).getD p[j] 0 = j := by
  unfold anF
  rw [zip_at p 0 _ j hn hj (by simpa using hl)]
  omega
theorem ord_head (t : Sh) (n : Nat) : ∃ q, ord t n = 0 :: q := by
  have h : [0] <+: ord t n := by
    unfold ord
    rw [show 3 * n + 1 = (3 * n) + 1 from rfl, go]
    simp only [List.not_mem_nil, if_false, List.nil_append]
    exact go_pre t _ _ _
  obtain ⟨q, hq⟩ := h
  exact ⟨q, by rw [← hq]; rfl⟩
theorem anF_zero {L : List Nd} (h : shE L = 0) : (anF L.length (ord (shp L) L.length)).getD 0 0 = 0 := by
  have ht := shE_tr h
  obtain ⟨q, hq⟩ := ord_head (shp L) L.length
  have hl : 0 < (ord (shp L) L.length).length := by rw [hq]; simp
  have e : (ord (shp L) L.length)[0] = 0 := by simp [hq]
  have := anF_at (n := L.length) (ord_nodup ht.wi) hl (by rw [e]; exact (shE_rgt h).1)
  rw [e] at this
  exact this
/-- A leaf stays as it is. -/
theorem rnN_leaf {L : List Nd} (h : shE L = 0) {i : Nat} (hi : i < L.length) (hk : (L.getD i nd0).kd = 1) : rnN (anF L.length (ord (shp L) L.length)) (L.getD i nd0) = L.getD i nd0 := by
  have hr := (shE_rgt h).2 i hi
  have hz := anF_zero h
  generalize L.getD i nd0 = n at *
  unfold rightB at hr
  rw [if_pos hk] at hr
  simp only [Bool.and_eq_true, decide_eq_true_eq] at hr
  have e1 : n.lf = 0 := hr.1.2
  have e2 : n.rt = 0 := hr.2
  obtain ⟨kd, vl, ft, th, cs, ms, lf, rt⟩ := n
  simp only at e1 e2
  subst e1 e2
  unfold rnN
  simp only [Int.toNat_zero, hz]
  rfl
set_option maxRecDepth 100000 in
set_option maxHeartbeats 2000000 in
theorem rCanon_err (a : Option Addr) (cap : Nat) (out : Int) (L : List Nd) (hLn : L.length ≤ 2199023255552) (hE : shE L ≠ 0) (w : World) (hrd : RdN w a L) :
    Calls Try.prog 38 #[.agg #[.int .i64 out, .slice a L.length cap]] w fun e w' => e = .returned (.tuple #[.agg #[.int .i64 0, .slice none 0 0], .int .i64 (shE L)]) ∧ Keep w w' := by
  obtain ⟨w1, hw1, k1, s1, r0, r1⟩ := boxes2n w #[Value.int .i64 out, Value.slice a L.length cap] #[Value.int .i64 0, Value.slice none 0 0] 24 24
  have hS1 := rShape_any w1 a cap out L hLn (hrd.keep k1)
  have hB : (shE L == 0) = false := by simpa using hE
  have hB2 : (shE L != 0) = true := by simpa using hE
  have hz1 : w.heap.size + 1 < w1.heap.size := (Array.getElem?_eq_some_iff.1 r1).1
  clear hE
  generalize shE L = E at hB hB2 hS1 ⊢
  replace hw1 : Hid _ := hw1
  go_enter Try.func38, Try.ntmps38
  go_wp2_with fail
  rw [hw1.out]
  refine hS1.mono ?_
  rintro e w2 ⟨rfl, k2⟩
  have q1 := (k2.block _ hz1).trans r1
  have e0 := cell_of_row w2 _ 0 _ 24 (0, 0) q1
  have e1 := cell_of_row w2 _ 1 _ 24 (0, 0) q1
  have f0 := frozen_of_row w2 _ 0 _ 24 q1
  have f1 := frozen_of_row w2 _ 1 _ 24 q1
  simp at e0 e1
  replace q1 : Hid _ := q1
  go_wp2_with fail
  have F2 : ((w2.setCell ⟨w.heap.size + 1, 0, none⟩ (.int .i64 0)).setCell ⟨w.heap.size + 1, 1, none⟩ (.slice none 0 0)).heap[w.heap.size + 1]? = some (.cells #[.int .i64 0, .slice none 0 0] 24 (0, 0)) := by
    have a1 := heap_setCell_same _ (w.heap.size + 1) 0 _ 24 (.int .i64 0) q1.out
    have a2 := heap_setCell_same _ (w.heap.size + 1) 1 _ 24 (.slice none 0 0) a1
    simpa using a2
  try simp only [Exit.inBlock, Exit.then]
  refine bodyPost_ret (results_cell_tmp rfl _ _ (w.heap.size + 1) 24 _ (0, 0) _ rfl F2 Try.underlying24 rfl (by kernel_rfl)) rfl ?_
  exact ⟨rfl, ((k1.trans k2).setCell (p := ⟨w.heap.size + 1, 0, none⟩) (by show w.heap.size ≤ w.heap.size + 1; omega) _).setCell (p := ⟨w.heap.size + 1, 1, none⟩) (by show w.heap.size ≤ w.heap.size + 1; omega) _⟩
end Go.Proofs.Ytbchinfmdioijaa
namespace Go.Proofs.Ytbchinfmdioijaa
/-- Numbered anew by f: the same shape. -/
structure Iso (t u : Sh) (n : Nat) (f : Nat → Nat) : Prop where
  z : f 0 = 0
  lt : ∀ i, i < n → f i < n
  inj : ∀ i j, i < n → j < n → f i = f j → i = j
  sur : ∀ j, j < n → ∃ i, i < n ∧ f i = j
  k : ∀ i, i < n → u.K (f i) = t.K i
  a : ∀ i, i < n → t.K i = true → u.A (f i) = f (t.A i)
  b : ∀ i, i < n → t.K i = true → u.B (f i) = f (t.B i)
theorem Iso.mem {t u : Sh} {n : Nat} {f : Nat → Nat} (h : Iso t u n f) {l : List Nat} (hl : ∀ i ∈ l, i < n) {i : Nat} (hi : i < n) : f i ∈ l.map f ↔ i ∈ l := by
  rw [List.mem_map]
  constructor
  · rintro ⟨j, hj, e⟩
    exact h.inj j i (hl j hj) hi e ▸ hj
  · intro hi; exact ⟨i, hi, rfl⟩
theorem Iso.go {t u : Sh} {n : Nat} {f : Nat → Nat} (h : Iso t u n f) (ht : In t n) : ∀ (g : Nat) (out S : List Nat), (∀ i ∈ out, i < n) → (∀ i ∈ S, i < n) → go u g (out.map f) (S.map f) = (go t g out S).map f
  | 0, out, S, _, _ => rfl
  | g + 1, out, [], _, _ => rfl
  | g + 1, out, i :: S, ho, hs => by
    have hi : i < n := hs i (List.mem_cons_self ..)
    have hS : ∀ j ∈ S, j < n := fun j hj => hs j (List.mem_cons_of_mem _ hj)
    rw [List.map_cons]
    unfold Go.Proofs.Ytbchinfmdioijaa.go
    by_cases hm : i ∈ out
    · rw [if_pos hm, if_pos ((h.mem ho hi).2 hm)]
      exact h.go ht g out S ho hS
    · rw [if_neg hm, if_neg (fun e => hm ((h.mem ho hi).1 e)), h.k i hi]
      have ho' : ∀ j ∈ out ++ [i], j < n := by
        intro j hj
        rcases List.mem_append.1 hj with hj | hj
        · exact ho j hj
        · rw [List.mem_singleton.1 hj]; exact hi
      have e1 : out.map f ++ [f i] = (out ++ [i]).map f := by simp
      rw [e1]
      cases hk : t.K i with
      | false =>
        simp only [Bool.false_eq_true, if_false]
        exact h.go ht g _ S ho' hS
      | true =>
        simp only [if_true]
        rw [h.a i hi hk, h.b i hi hk]
        have hc := ht.2 i hi hk
        have := h.go ht g (out ++ [i]) (t.A i :: t.B i :: S) ho' (by
          intro j hj
          rcases List.mem_cons.1 hj with e | hj
          · rw [e]; exact hc.1
          · rcases List.mem_cons.1 hj with e | hj
            · rw [e]; exact hc.2
            · exact hS j hj)
        simpa using this
theorem Iso.ord {t u : Sh} {n : Nat} {f : Nat → Nat} (h : Iso t u n f) (ht : In t n) : ord u n = (ord t n).map f := by
  have := h.go ht (3 * n + 1) [] [0] (by simp) (by simpa using ht.1)
  rw [List.map_nil, List.map_cons, List.map_nil, h.z] at this
  exact this
theorem Iso.path {t u : Sh} {n : Nat} {f : Nat → Nat} (h : Iso t u n f) (ht : In t n) {c d : Nat → Bool} (hc : ∀ i, i < n → d (f i) = c i) : ∀ (g i : Nat), i < n → path u d g (f i) = (path t c g i).map f
  | 0, i, _ => rfl
  | g + 1, i, hi => by
    unfold Go.Proofs.Ytbchinfmdioijaa.path
    rw [h.k i hi]
    cases hk : t.K i with
    | false => simp
    | true =>
      simp only [if_true, List.map_cons, List.cons.injEq, true_and]
      rw [hc i hi, h.a i hi hk, h.b i hi hk]
      have hl := ht.2 i hi hk
      cases c i with
      | false => simpa using h.path ht hc g _ hl.2
      | true => simpa using h.path ht hc g _ hl.1
theorem Iso.way {t u : Sh} {n : Nat} {f : Nat → Nat} (h : Iso t u n f) (ht : In t n) {c d : Nat → Bool} (hc : ∀ i, i < n → d (f i) = c i) : way u d n = (way t c n).map f := by
  have := h.path ht hc (n - 1) 0 ht.1
  rw [h.z] at this
  exact this
theorem Iso.rch {t u : Sh} {n i : Nat} {f : Nat → Nat} (h : Iso t u n f) (ht : In t n) (r : Rch t i) : Rch u (f i) := by
  induction r with
  | zero => rw [h.z]; exact .zero
  | left r hk ih =>
    have hi := r.lt ht
    rw [← h.a _ hi hk]
    exact .left ih ((h.k _ hi).trans hk)
  | right r hk ih =>
    have hi := r.lt ht
    rw [← h.b _ hi hk]
    exact .right ih ((h.k _ hi).trans hk)
def one (t : Sh) (j i : Nat) : Nat := (if t.K i = true ∧ t.A i = j then 1 else 0) + (if t.K i = true ∧ t.B i = j then 1 else 0)
theorem cnt_sum (t : Sh) (j : Nat) : ∀ m, cnt t j m = ((List.range m).map (one t j)).sum
  | 0 => rfl
  | m + 1 => by
    rw [cnt, cnt_sum t j m, List.range_succ, List.map_append, List.sum_append]
    simp [one, Nat.add_assoc]
theorem perm_sum {l r : List Nat} (h : l.Perm r) : l.sum = r.sum := by
  induction h with
  | nil => rfl
  | cons x _ ih => simp [ih]
  | swap x y l => simp; omega
  | trans _ _ h1 h2 => exact h1.trans h2
theorem nodup_map {f : Nat → Nat} {n : Nat} (hf : ∀ i j, i < n → j < n → f i = f j → i = j) : ∀ {l : List Nat}, (∀ i ∈ l, i < n) → l.Nodup → (l.map f).Nodup
  | [], _, _ => by simp
  | x :: l, hl, hn => by
    rw [List.nodup_cons] at hn
    rw [List.map_cons, List.nodup_cons]
    refine ⟨fun e => ?_, nodup_map hf (fun i hi => hl i (List.mem_cons_of_mem _ hi)) hn.2⟩
    obtain ⟨j, hj, e⟩ := List.mem_map.1 e
    exact hn.1 (hf j x (hl j (List.mem_cons_of_mem _ hj)) (hl x (List.mem_cons_self ..)) e ▸ hj)
theorem Iso.perm {t u : Sh} {n : Nat} {f : Nat → Nat} (h : Iso t u n f) : ((List.range n).map f).Perm (List.range n) := by
  rw [List.perm_ext_iff_of_nodup (nodup_map h.inj (fun i hi => List.mem_range.1 hi) List.nodup_range) List.nodup_range]
  intro j
  rw [List.mem_map, List.mem_range]
  constructor
  · rintro ⟨i, hi, rfl⟩; exact h.lt i (List.mem_range.1 hi)
  · intro hj
    obtain ⟨i, hi, e⟩ := h.sur j hj
    exact ⟨i, List.mem_range.2 hi, e⟩
theorem Iso.one {t u : Sh} {n : Nat} {f : Nat → Nat} (h : Iso t u n f) (ht : In t n) {i j : Nat} (hi : i < n) (hj : j < n) : one u (f j) (f i) = one t j i := by
  unfold Go.Proofs.Ytbchinfmdioijaa.one
  rw [h.k i hi]
  cases hk : t.K i with
  | false => simp
  | true =>
    rw [h.a i hi hk, h.b i hi hk]
    have hl := ht.2 i hi hk
    have e1 : (f (t.A i) = f j) = (t.A i = j) := propext ⟨fun e => h.inj _ _ hl.1 hj e, fun e => by rw [e]⟩
    have e2 : (f (t.B i) = f j) = (t.B i = j) := propext ⟨fun e => h.inj _ _ hl.2 hj e, fun e => by rw [e]⟩
    simp only [e1, e2]
theorem Iso.cnt {t u : Sh} {n : Nat} {f : Nat → Nat} (h : Iso t u n f) (ht : In t n) {j : Nat} (hj : j < n) : cnt u (f j) n = cnt t j n := by
  rw [cnt_sum, cnt_sum, ← perm_sum (h.perm.map (Go.Proofs.Ytbchinfmdioijaa.one u (f j))), List.map_map]
  congr 1
  apply List.map_congr_left
  intro i hi
  exact h.one ht (List.mem_range.1 hi) hj
theorem Iso.inn {t u : Sh} {n : Nat} {f : Nat → Nat} (h : Iso t u n f) (ht : In t n) : In u n := by
  refine ⟨ht.1, fun j hj hk => ?_⟩
  obtain ⟨i, hi, rfl⟩ := h.sur j hj
  have hk' : t.K i = true := (h.k i hi).symm.trans hk
  rw [h.a i hi hk', h.b i hi hk']
  exact ⟨h.lt _ (ht.2 i hi hk').1, h.lt _ (ht.2 i hi hk').2⟩
theorem Iso.tr {t u : Sh} {n : Nat} {f : Nat → Nat} (h : Iso t u n f) (ht : Tr t n) : Tr u n := by
  refine ⟨h.inn ht.wi, fun j hj hk => ?_, fun j h0 hj => ?_, fun j hj => ?_⟩
  · obtain ⟨i, hi, rfl⟩ := h.sur j hj
    have hk' : t.K i = true := (h.k i hi).symm.trans hk
    rw [h.a i hi hk', h.b i hi hk']
    have hz := ht.z i hi hk'
    have hl := ht.wi.2 i hi hk'
    exact ⟨fun e => hz.1 (h.inj _ _ hl.1 ht.wi.1 (e.trans h.z.symm)), fun e => hz.2 (h.inj _ _ hl.2 ht.wi.1 (e.trans h.z.symm))⟩
  · obtain ⟨i, hi, rfl⟩ := h.sur j hj
    rw [h.cnt ht.wi hi]
    exact ht.one i (by
      rcases Nat.eq_zero_or_pos i with e | e
      · rw [e, h.z] at h0; exact absurd h0 (Nat.lt_irrefl _)
      · exact e) hi
  · obtain ⟨i, hi, rfl⟩ := h.sur j hj
    exact h.rch ht.wi (ht.re i hi)
/-- Before the place of e, what is kept: as much before and behind. -/
theorem Iso.plc {t u : Sh} {n : Nat} {f : Nat → Nat} (h : Iso t u n f) {q r : Nat → Bool} (hq : ∀ i, i < n → r (f i) = q i) {e : Nat} (he : e < n) : ∀ {l : List Nat}, (∀ i ∈ l, i < n) → (((l.map f).takeWhile (fun i => decide (i ≠ f e))).filter r).length = ((l.takeWhile (fun i => decide (i ≠ e))).filter q).length
  | [], _ => rfl
  | x :: l, hl => by
    have hx : x < n := hl x (List.mem_cons_self ..)
    have ih := h.plc hq he (l := l) (fun i hi => hl i (List.mem_cons_of_mem _ hi))
    rw [List.map_cons, List.takeWhile_cons, List.takeWhile_cons]
    by_cases e1 : x = e
    · subst e1; simp
    · have e2 : f x ≠ f e := fun y => e1 (h.inj _ _ hx he y)
      rw [if_pos (decide_eq_true e2), if_pos (decide_eq_true e1), List.filter_cons, List.filter_cons, hq x hx]
      split
      · rw [List.length_cons, List.length_cons, ih]
      · exact ih
end Go.Proofs.Ytbchinfmdioijaa
set_option linter.unusedVariables false
set_option linter.unusedSimpArgs false
namespace Go.Proofs.Ytbchinfmdioijaa
open Go.RowKit Go.Shelf
/-- Where a node of a right tree stands, numbered anew. -/
def phi (L : List Nd) (i : Nat) : Nat := (anF L.length (ord (shp L) L.length)).getD i 0
theorem phi_ord {L : List Nd} (h : shE L = 0) {j : Nat} (hj : j < L.length) : (ord (shp L) L.length).getD j 0 < L.length ∧ phi L ((ord (shp L) L.length).getD j 0) = j := by
  have ht := shE_tr h
  have hj' : j < (ord (shp L) L.length).length := by rw [ord_full h]; exact hj
  have e : (ord (shp L) L.length).getD j 0 = (ord (shp L) L.length)[j] := by simp [List.getD, hj']
  have hl : (ord (shp L) L.length)[j] < L.length := ord_lt ht.wi _ (List.getElem_mem _)
  rw [e]
  exact ⟨hl, anF_at (ord_nodup ht.wi) hj' hl⟩
theorem phi_inv {L : List Nd} (h : shE L = 0) {i : Nat} (hi : i < L.length) : phi L i < L.length ∧ (ord (shp L) L.length).getD (phi L i) 0 = i := by
  have ht := shE_tr h
  obtain ⟨j, hj, e⟩ := List.getElem_of_mem (ord_all ht hi)
  have hj' : j < L.length := by rw [← ord_full h]; exact hj
  have e2 : (ord (shp L) L.length).getD j 0 = i := by simp [List.getD, hj, e]
  have := (phi_ord h hj').2
  rw [e2] at this
  rw [this]
  exact ⟨hj', e2⟩
theorem cno_len {L : List Nd} (h : shE L = 0) : (cnoL L).length = L.length := by
  unfold cnoL
  rw [List.length_map, ord_full h]
theorem cno_get {L : List Nd} (h : shE L = 0) {i : Nat} (hi : i < L.length) : (cnoL L).getD (phi L i) nd0 = rnN (anF L.length (ord (shp L) L.length)) (L.getD i nd0) := by
  have h1 := phi_inv h hi
  have h2 : phi L i < (ord (shp L) L.length).length := by rw [ord_full h]; exact h1.1
  have h3 : (ord (shp L) L.length)[phi L i] = i := by
    have := h1.2
    simpa [List.getD, h2] using this
  unfold cnoL
  simp [List.getD, h2, h3]
theorem cno_iso {L : List Nd} (h : shE L = 0) : Iso (shp L) (shp (cnoL L)) L.length (phi L) := by
  refine ⟨anF_zero h, fun i hi => (phi_inv h hi).1, fun i j hi hj e => ?_, fun j hj => ⟨_, phi_ord h hj⟩, fun i hi => ?_, fun i hi _ => ?_, fun i hi _ => ?_⟩
  · have h1 := (phi_inv h hi).2
    rw [e, (phi_inv h hj).2] at h1
    exact h1.symm
  · show decide (((cnoL L).getD (phi L i) nd0).kd = 2 ∨ ((cnoL L).getD (phi L i) nd0).kd = 3) = _
    rw [cno_get h hi]
    rfl
  · show ((cnoL L).getD (phi L i) nd0).lf.toNat = _
    rw [cno_get h hi]
    rfl
  · show ((cnoL L).getD (phi L i) nd0).rt.toNat = _
    rw [cno_get h hi]
    rfl
theorem badF_all {L : List Nd} (h : ∀ i, i < L.length → rightB (L.getD i nd0) L.length = true) : ∀ (f k : Nat), k + f ≤ L.length → badF L f k = none
  | 0, k, _ => rfl
  | f + 1, k, hk => by
    rw [badF, if_pos (h k (by omega))]
    exact badF_all h f (k + 1) (by omega)
theorem misF_all {L : List Nd} (h : Tr (shp L) L.length) : ∀ (f k : Nat), 0 < k → k + f ≤ L.length → misF L f k = 0
  | 0, k, _, _ => rfl
  | f + 1, k, h0, hk => by
    have : misB L k = false := by
      unfold misB
      rw [h.one k h0 (by omega)]
      simp [ord_all h (show k < L.length by omega)]
    rw [misF, this]
    exact misF_all h f (k + 1) (by omega) (by omega)
theorem shE_of {L : List Nd} (hR : Rgt L) (hT : Tr (shp L) L.length) : shE L = 0 := by
  have h0 := hR.1
  unfold shE
  rw [if_neg (by omega), badF_all hR.2 _ _ (by omega)]
  show (if misF L (L.length - 1) 1 = 0 then (0 : Int) else 70) = 0
  rw [if_pos (misF_all hT _ _ (by omega) (by omega))]
theorem Rgt.lr {L : List Nd} (h : Rgt L) {i : Nat} (hi : i < L.length) : (L.getD i nd0).lf.toNat < L.length ∧ (L.getD i nd0).rt.toNat < L.length := by
  have hr := h.2 i hi
  have h0 := h.1
  generalize L.getD i nd0 = n at *
  unfold rightB at hr
  split at hr
  · simp only [Bool.and_eq_true, decide_eq_true_eq] at hr
    have e1 := hr.1.2
    have e2 := hr.2
    rw [e1, e2]
    exact ⟨h0, h0⟩
  · split at hr
    · simp only [Bool.and_eq_true, spl, decide_eq_true_eq] at hr
      omega
    · split at hr
      · simp only [Bool.and_eq_true, spl, decide_eq_true_eq] at hr
        omega
      · cases hr
theorem spl_rn {L : List Nd} (h : shE L = 0) {n : Nd} (hs : spl n L.length = true) : spl (rnN (anF L.length (ord (shp L) L.length)) n) L.length = true := by
  have hI := cno_iso h
  have h0 := (shE_rgt h).1
  have hp : ∀ x : Int, 1 ≤ x → x < (L.length : Int) → 1 ≤ ((phi L x.toNat : Nat) : Int) ∧ ((phi L x.toNat : Nat) : Int) < (L.length : Int) := by
    intro x h1 h2
    have h3 : x.toNat < L.length := by omega
    have h4 := hI.lt _ h3
    have h5 : phi L x.toNat ≠ 0 := by
      intro e
      have := hI.inj _ 0 h3 h0 (e.trans hI.z.symm)
      omega
    omega
  simp only [spl, decide_eq_true_eq] at hs ⊢
  obtain ⟨a, b, c, d, e, f⟩ := hs
  exact ⟨a, b, c, d, hp n.lf e.1 e.2, hp n.rt f.1 f.2⟩
theorem cno_rgt {L : List Nd} (h : shE L = 0) : Rgt (cnoL L) := by
  have hR := shE_rgt h
  refine ⟨by rw [cno_len h]; exact hR.1, fun j hj => ?_⟩
  rw [cno_len h] at hj ⊢
  obtain ⟨i, hi, rfl⟩ := (cno_iso h).sur j hj
  rw [cno_get h hi]
  have hr := hR.2 i hi
  by_cases hk : (L.getD i nd0).kd = 1
  · rw [rnN_leaf h hi hk]; exact hr
  · have hs := fun (n : Nd) => spl_rn h (n := n)
    generalize L.getD i nd0 = n at *
    have e1 : (rnN (anF L.length (ord (shp L) L.length)) n).kd = n.kd := rfl
    have e2 : (rnN (anF L.length (ord (shp L) L.length)) n).th = n.th := rfl
    have e3 : (rnN (anF L.length (ord (shp L) L.length)) n).cs = n.cs := rfl
    unfold rightB at hr ⊢
    rw [e1, e2, e3]
    rw [if_neg hk] at hr ⊢
    split
    · rename_i h2
      rw [if_pos h2] at hr
      simp only [Bool.and_eq_true] at hr ⊢
      exact ⟨⟨hs n hr.1.1, hr.1.2⟩, hr.2⟩
    · rename_i h2
      rw [if_neg h2] at hr
      split
      · rename_i h3
        rw [if_pos h3] at hr
        simp only [Bool.and_eq_true] at hr ⊢
        exact ⟨⟨hs n hr.1.1, hr.1.2⟩, hr.2⟩
      · rename_i h3
        rw [if_neg h3] at hr
        exact hr
/-- Numbered anew it is a right tree. -/
theorem cno_shE {L : List Nd} (h : shE L = 0) : shE (cnoL L) = 0 := by
  refine shE_of (cno_rgt h) ?_
  rw [cno_len h]
  exact (cno_iso h).tr (shE_tr h)
theorem cno_ord {L : List Nd} (h : shE L = 0) : ord (shp (cnoL L)) L.length = List.range L.length := by
  rw [(cno_iso h).ord (shE_tr h).wi]
  apply List.ext_getElem
  · simp [ord_full h]
  · intro j h1 h2
    have hj : j < L.length := by simpa using h2
    have hj' : j < (ord (shp L) L.length).length := by rw [ord_full h]; exact hj
    have := (phi_ord h hj).2
    simpa [List.getD, hj'] using this
/-- Numbered anew once more it is as it was. -/
theorem cno_cno {L : List Nd} (h : shE L = 0) : cnoL (cnoL L) = cnoL L := by
  have hl := cno_len h
  have ho := cno_ord h
  have e : cnoL (cnoL L) = (List.range L.length).map (fun i => rnN (anF L.length (List.range L.length)) ((cnoL L).getD i nd0)) := by
    rw [cnoL, hl, ho]
  have ha : ∀ x, x < L.length → (anF L.length (List.range L.length)).getD x 0 = x := by
    intro x hx
    have hx' : x < (List.range L.length).length := by simpa using hx
    have := anF_at (n := L.length) List.nodup_range hx' (by simpa using hx)
    simpa using this
  rw [e]
  apply List.ext_getElem
  · simp [hl]
  · intro j h1 h2
    have hj : j < L.length := by rw [← hl]; exact h2
    have hlr := (cno_rgt h).lr h2
    have hR := (cno_iso h).sur j hj
    obtain ⟨i, hi, hij⟩ := hR
    have hg := cno_get h hi
    rw [hij] at hg
    rw [hl] at hlr
    rw [List.getElem_map, List.getElem_range]
    have eg : (cnoL L).getD j nd0 = (cnoL L)[j] := by simp [List.getD, h2]
    rw [← eg]
    have hlf : ((cnoL L).getD j nd0).lf = (((cnoL L).getD j nd0).lf.toNat : Nat) := by rw [hg]; rfl
    have hrt : ((cnoL L).getD j nd0).rt = (((cnoL L).getD j nd0).rt.toNat : Nat) := by rw [hg]; rfl
    generalize (cnoL L).getD j nd0 = N at *
    unfold rnN
    rw [ha _ hlr.1, ha _ hlr.2, ← hlf, ← hrt]
theorem cno_lack {L : List Nd} (h : shE L = 0) (m : Nat) : lackB (cnoL L) m = lackB L m := by
  have hl := cno_len h
  cases hb : lackB L m with
  | true =>
    unfold lackB at hb
    rw [List.any_eq_true] at hb
    obtain ⟨n, hn, hd⟩ := hb
    obtain ⟨i, hi, rfl⟩ := List.getElem_of_mem hn
    have eg : L.getD i nd0 = L[i] := by simp [List.getD, hi]
    rw [← eg] at hd
    refine lackB_yes (k := phi L i) (by rw [hl]; exact (phi_inv h hi).1) ?_
    rw [cno_get h hi]
    exact of_decide_eq_true hd
  | false =>
    refine lackB_no fun k hk hd => ?_
    rw [hl] at hk
    obtain ⟨i, hi, rfl⟩ := (cno_iso h).sur k hk
    rw [cno_get h hi] at hd
    have := lackB_yes (m := m) hi hd
    rw [hb] at this
    cases this
theorem cno_chs {L : List Nd} (h : shE L = 0) (xs : List Nat) {i : Nat} (hi : i < L.length) : chs (cnoL L) xs (phi L i) = chs L xs i := by
  unfold chs
  rw [cno_get h hi]
  rfl
theorem cno_wyE {L : List Nd} (h : shE L = 0) (m : Nat) : wyE (cnoL L) m = wyE L m := by
  unfold wyE
  rw [cno_shE h, h, cno_lack h]
theorem getLastD_map {f : Nat → Nat} {l : List Nat} (h : l ≠ []) : (l.map f).getLastD 0 = f (l.getLastD 0) := by
  rw [List.getLastD_eq_getLast?, List.getLastD_eq_getLast?, List.getLast?_map]
  cases hl : l.getLast? with
  | none => exact absurd (List.getLast?_eq_none_iff.1 hl) h
  | some x => rfl
theorem cno_end {L : List Nd} (h : shE L = 0) (xs : List Nat) : endN (cnoL L) xs = phi L (endN L xs) := by
  have hw := (cno_iso h).way (shE_tr h).wi (c := chs L xs) (d := chs (cnoL L) xs) (fun i hi => cno_chs h xs hi)
  unfold endN
  rw [cno_len h, hw]
  exact getLastD_map (path_ne _ _ _ _)
theorem end_lt {L : List Nd} (h : shE L = 0) (xs : List Nat) : endN L xs < L.length := by
  obtain ⟨e, l, h1, h2, h3, h4⟩ := way_end (shE_tr h) (chs L xs)
  unfold endN
  rw [h1]
  have : (l ++ [e]).getLastD 0 = e := by rw [List.getLastD_eq_getLast?]; simp
  rw [this]
  exact h3.lt (shE_tr h).wi
theorem cno_lfV {L : List Nd} (h : shE L = 0) (xs : List Nat) : lfV (cnoL L) xs = lfV L xs := by
  unfold lfV
  rw [cno_wyE h, cno_end h, cno_get h (end_lt h xs)]
  rfl
theorem cno_lfK {L : List Nd} (h : shE L = 0) (xs : List Nat) : lfK (cnoL L) xs = lfK L xs := by
  unfold lfK
  rw [cno_wyE h, cno_end h]
  have : plc (cnoL L) (phi L (endN L xs)) = plc L (endN L xs) := by
    unfold plc
    rw [cno_len h, (cno_iso h).ord (shE_tr h).wi]
    refine (cno_iso h).plc (q := fun i => (!decide ((L.getD i nd0).kd = 2 ∨ (L.getD i nd0).kd = 3))) (fun i hi => ?_) (end_lt h xs) (fun i hi => ord_lt (shE_tr h).wi i hi)
    show (!decide (((cnoL L).getD (phi L i) nd0).kd = 2 ∨ ((cnoL L).getD (phi L i) nd0).kd = 3)) = _
    rw [cno_get h hi]
    rfl
  rw [this]
theorem cno_N {L : List Nd} (h : shE L = 0) : cnoN L = cnoL L := if_pos h
theorem cno_N2 {L : List Nd} (h : shE L = 0) : cnoN (cnoL L) = cnoL L := by rw [cno_N (cno_shE h), cno_cno h]
end Go.Proofs.Ytbchinfmdioijaa
set_option linter.unusedVariables false
set_option linter.unusedSimpArgs false
namespace Go.Proofs.Ytbchinfmdioijaa
open Go.RowKit Go.Shelf
theorem path_hd (t : Sh) (c : Nat → Bool) (f i : Nat) : (path t c f i).getD 0 0 = i := by
  cases f with
  | zero => rfl
  | succ f => rw [path]; split <;> rfl
theorem path_at (t : Sh) (c : Nat → Bool) : ∀ (f i j : Nat), j + 1 < (path t c f i).length → t.K ((path t c f i).getD j 0) = true ∧ (path t c f i).getD (j + 1) 0 = if c ((path t c f i).getD j 0) = true then t.A ((path t c f i).getD j 0) else t.B ((path t c f i).getD j 0)
  | 0, i, j, h => by simp [path] at h
  | f + 1, i, j, h => by
    by_cases hk : t.K i = true
    · rw [path_inner hk] at h ⊢
      cases j with
      | zero =>
        rw [List.getD_cons_zero, List.getD_cons_succ, path_hd]
        exact ⟨hk, rfl⟩
      | succ j =>
        rw [List.getD_cons_succ, List.getD_cons_succ]
        exact path_at t c f _ j (by simpa using h)
    · rw [path_leaf (by simpa using hk)] at h
      simp at h
theorem path_in {t : Sh} {n : Nat} (ht : In t n) (c : Nat → Bool) : ∀ (f i j : Nat), i < n → (path t c f i).getD j 0 < n
  | 0, i, j, h => by
    cases j with
    | zero => exact h
    | succ j => exact ht.1
  | f + 1, i, j, h => by
    by_cases hk : t.K i = true
    · rw [path_inner hk]
      cases j with
      | zero => exact h
      | succ j =>
        rw [List.getD_cons_succ]
        refine path_in ht c f _ j ?_
        split
        · exact (ht.2 i h hk).1
        · exact (ht.2 i h hk).2
    · rw [path_leaf (by simpa using hk)]
      cases j with
      | zero => exact h
      | succ j => exact ht.1
/-- Where one stands among those that are kept. -/
theorem filter_place {q : Nat → Bool} {e : Nat} (hq : q e = true) : ∀ {l : List Nat}, e ∈ l → ((l.takeWhile (fun i => decide (i ≠ e))).filter q).length < (l.filter q).length ∧ (l.filter q).getD ((l.takeWhile (fun i => decide (i ≠ e))).filter q).length 0 = e
  | [], h => by simp at h
  | x :: l, h => by
    rw [List.takeWhile_cons]
    by_cases ex : x = e
    · subst ex
      simp [List.filter_cons, hq]
    · have hl : e ∈ l := by
        rcases List.mem_cons.1 h with h | h
        · exact absurd h.symm ex
        · exact h
      have ih := filter_place hq hl
      rw [if_pos (decide_eq_true ex), List.filter_cons, List.filter_cons]
      split
      · rw [List.length_cons, List.length_cons, List.getD_cons_succ]
        exact ⟨by omega, ih.2⟩
      · exact ih
theorem wyL_ok {L : List Nd} {xs : List Nat} (h : wyE L xs.length = 0) : wyL L xs = way (shp L) (chs L xs) L.length := if_pos h
theorem wy_len {L : List Nd} {xs : List Nat} (h : wyE L xs.length = 0) : 0 < (wyL L xs).length ∧ (wyL L xs).length ≤ L.length := by
  obtain ⟨e, l, h1, h2, h3, h4⟩ := way_end (shE_tr (wyE_ok h).1) (chs L xs)
  rw [wyL_ok h]
  exact ⟨by rw [h1]; simp, h4⟩
theorem wy_hd {L : List Nd} {xs : List Nat} (h : wyE L xs.length = 0) : (wyL L xs).getD 0 0 = 0 := by
  rw [wyL_ok h]
  exact path_hd _ _ _ _
theorem wy_lt {L : List Nd} {xs : List Nat} (h : wyE L xs.length = 0) (j : Nat) : (wyL L xs).getD j 0 < L.length := by
  have ht := shE_tr (wyE_ok h).1
  rw [wyL_ok h]
  exact path_in ht.wi _ _ _ _ ht.wi.1
/-- What a node on the way says of the next one. -/
theorem wy_at {L : List Nd} {xs : List Nat} (h : wyE L xs.length = 0) {j : Nat} (hj : j + 1 < (wyL L xs).length) :
    0 ≤ (L.getD ((wyL L xs).getD j 0) nd0).ft ∧ (L.getD ((wyL L xs).getD j 0) nd0).ft < (xs.length : Int) ∧
    ((gsS (L.getD ((wyL L xs).getD j 0) nd0) (xs.getD (L.getD ((wyL L xs).getD j 0) nd0).ft.toNat 0) = 1 ∧ (L.getD ((wyL L xs).getD j 0) nd0).lf = (((wyL L xs).getD (j + 1) 0 : Nat) : Int)) ∨
     (gsS (L.getD ((wyL L xs).getD j 0) nd0) (xs.getD (L.getD ((wyL L xs).getD j 0) nd0).ft.toNat 0) = 2 ∧ (L.getD ((wyL L xs).getD j 0) nd0).rt = (((wyL L xs).getD (j + 1) 0 : Nat) : Int))) := by
  obtain ⟨hE, hlk⟩ := wyE_ok h
  have ht := shE_tr hE
  have hR := shE_rgt hE
  have hi := wy_lt h j
  have hp := path_at (shp L) (chs L xs) (L.length - 1) 0 j (by have := hj; rw [wyL_ok h] at this; exact this)
  have hw : path (shp L) (chs L xs) (L.length - 1) 0 = wyL L xs := (wyL_ok h).symm
  rw [hw] at hp
  generalize (wyL L xs).getD j 0 = i at *
  have hk := hR.kids hi hp.1
  have hft := hR.ft hi hp.1
  have hkd : (L.getD i nd0).kd = 2 ∨ (L.getD i nd0).kd = 3 := of_decide_eq_true hp.1
  have hft2 : (L.getD i nd0).ft < (xs.length : Int) := by
    rcases Int.lt_or_le (L.getD i nd0).ft (xs.length : Int) with g | g
    · exact g
    · have := lackB_yes (m := xs.length) hi ⟨hkd, g⟩
      rw [hlk] at this
      cases this
  refine ⟨hft, hft2, ?_⟩
  have hms : (L.getD i nd0).ms = 1 ∨ (L.getD i nd0).ms = 2 := by
    have hr := hR.2 i hi
    generalize L.getD i nd0 = n at *
    unfold rightB at hr
    rcases hkd with e | e
    · rw [if_neg (by omega), if_pos e] at hr
      simp only [Bool.and_eq_true, spl, decide_eq_true_eq] at hr
      exact hr.1.1.2.2.2.1
    · rw [if_neg (by omega), if_neg (by omega), if_pos e] at hr
      simp only [Bool.and_eq_true, spl, decide_eq_true_eq] at hr
      exact hr.1.1.2.2.2.1
  have hgs : gsS (L.getD i nd0) (xs.getD (L.getD i nd0).ft.toNat 0) = 1 ∨ gsS (L.getD i nd0) (xs.getD (L.getD i nd0).ft.toNat 0) = 2 := by
    generalize xs.getD (L.getD i nd0).ft.toNat 0 = x
    generalize L.getD i nd0 = n at *
    have hs : ∀ b, sdS x n.ms b = 1 ∨ sdS x n.ms b = 2 := by
      intro b
      unfold sdS
      split
      · exact hms
      · split
        · exact .inl rfl
        · exact .inr rfl
    unfold gsS
    rcases hkd with e | e
    · rw [if_pos e]; exact hs _
    · rw [if_neg (by omega), if_pos e]
      unfold amS
      split
      · exact .inl rfl
      · exact hs _
  have hn := hp.2
  rcases hgs with g | g
  · left
    refine ⟨g, ?_⟩
    have hc : chs L xs i = true := decide_eq_true g
    rw [hc, if_pos rfl] at hn
    rw [hn]; exact hk.1.1
  · right
    refine ⟨g, ?_⟩
    have hc : chs L xs i = false := decide_eq_false (by omega)
    rw [hc] at hn
    simp only [Bool.false_eq_true, if_false] at hn
    rw [hn]; exact hk.2.1
/-- The last one on the way is a leaf, and stands among the leaves where Leaf says. -/
theorem wy_last {L : List Nd} {xs : List Nat} (h : wyE L xs.length = 0) :
    (L.getD ((wyL L xs).getD ((wyL L xs).length - 1) 0) nd0).kd = 1 ∧ (L.getD ((wyL L xs).getD ((wyL L xs).length - 1) 0) nd0).vl = lfV L xs ∧ lfK L xs < (lvs L).length ∧ (lvs L).getD (lfK L xs) 0 = (wyL L xs).getD ((wyL L xs).length - 1) 0 := by
  obtain ⟨hE, hlk⟩ := wyE_ok h
  have ht := shE_tr hE
  have hR := shE_rgt hE
  obtain ⟨e, l, h1, h2, h3, h4⟩ := way_end ht (chs L xs)
  have he : endN L xs = e := by
    unfold endN
    rw [h1, List.getLastD_eq_getLast?]; simp
  have hl : (wyL L xs).getD ((wyL L xs).length - 1) 0 = e := by
    rw [wyL_ok h, h1]
    simp [List.getD]
  have hin : e < L.length := h3.lt ht.wi
  rw [hl]
  have hkd : (L.getD e nd0).kd = 1 := by
    have hr := hR.2 e hin
    have h2' : ¬ ((L.getD e nd0).kd = 2 ∨ (L.getD e nd0).kd = 3) := of_decide_eq_false h2
    generalize L.getD e nd0 = n at *
    unfold rightB at hr
    split at hr
    · assumption
    · rw [if_neg (fun g => h2' (.inl g)), if_neg (fun g => h2' (.inr g))] at hr
      cases hr
  have hpl := filter_place (q := fun i => (!decide ((L.getD i nd0).kd = 2 ∨ (L.getD i nd0).kd = 3))) (e := e) (l := ord (shp L) L.length) (by
    show (!decide ((L.getD e nd0).kd = 2 ∨ (L.getD e nd0).kd = 3)) = true
    rw [hkd]; rfl) (ord_all ht hin)
  have hlv : lvs L = (ord (shp L) L.length).filter (fun i => (!decide ((L.getD i nd0).kd = 2 ∨ (L.getD i nd0).kd = 3))) := if_pos hE
  have hlk2 : lfK L xs = plc L e := by unfold lfK; rw [if_pos h, he]
  refine ⟨hkd, ?_, ?_, ?_⟩
  · unfold lfV
    rw [if_pos h, he]
  · rw [hlk2, hlv]; exact hpl.1
  · rw [hlk2, hlv]; exact hpl.2
theorem cno_all {L : List Nd} {xs : List Nat} (h : wyE L xs.length = 0) : (cnoN L).length = L.length ∧ shE L = 0 ∧ wyE (cnoN L) xs.length = 0 ∧ lfK (cnoN L) xs = lfK L xs ∧ lfV (cnoN L) xs = lfV L xs ∧ shE (cnoN L) = 0 ∧ cnoN (cnoN L) = cnoN L ∧ (∀ o, cnoO (cnoN L) o = o) ∧ ∀ o, cnoO L o = o := by
  obtain ⟨hE, hlk⟩ := wyE_ok h
  rw [cno_N hE]
  have h2 := cno_shE hE
  exact ⟨cno_len hE, hE, (cno_wyE hE _).trans h, cno_lfK hE xs, cno_lfV hE xs, h2, cno_N2 hE, fun o => if_pos h2, fun o => if_pos hE⟩
end Go.Proofs.Ytbchinfmdioijaa
set_option linter.unusedVariables false
set_option linter.unusedSimpArgs false
namespace Go.Proofs.Ytbchinfmdioijaa
open Go.RowKit Go.Shelf
/-- One tree's value added. -/
def addT (N : Int) (xs : List Nat) (s : List Int) (t : Int × List Nd) : List Int := s.set t.1.toNat (wrap64 (s.getD t.1.toNat 0 + woV t.2 t.1 N xs))
theorem addT_len (N : Int) (xs : List Nat) (s : List Int) (t : Int × List Nd) : (addT N xs s t).length = s.length := by simp [addT]
theorem fold_len (N : Int) (xs : List Nat) : ∀ (ts : List (Int × List Nd)) (s : List Int), (ts.foldl (addT N xs) s).length = s.length
  | [], s => rfl
  | t :: ts, s => by rw [List.foldl_cons, fold_len N xs ts, addT_len]
theorem scF_ok {N : Int} {xs : List Nat} : ∀ {ts : List (Int × List Nd)} {s : List Int}, (scF N xs ts s).2 = 0 → (∀ t ∈ ts, woE t.2 t.1 N xs.length = 0) ∧ (scF N xs ts s).1 = ts.foldl (addT N xs) s
  | [], s, _ => ⟨by simp, rfl⟩
  | t :: ts, s, h => by
    rw [scF] at h ⊢
    split at h
    · rename_i h0
      rw [if_pos h0]
      have ih := scF_ok h
      refine ⟨fun u hu => ?_, ih.2⟩
      rcases List.mem_cons.1 hu with rfl | hu
      · exact h0
      · exact ih.1 u hu
    · rename_i h0; exact absurd h h0
theorem scF_of {N : Int} {xs : List Nat} : ∀ {ts : List (Int × List Nd)} {s : List Int}, (∀ t ∈ ts, woE t.2 t.1 N xs.length = 0) → scF N xs ts s = (ts.foldl (addT N xs) s, 0)
  | [], s, _ => rfl
  | t :: ts, s, h => by
    rw [scF, if_pos (h t (List.mem_cons_self ..)), scF_of (fun u hu => h u (List.mem_cons_of_mem _ hu))]
    rfl
theorem scS_ok {F : Nat} {N : Int} {base : List Int} {ts : List (Int × List Nd)} {xs : List Nat} (h : (scS F N base ts xs).2 = 0) : 1 ≤ N ∧ (base.length : Int) = N ∧ xs.length = F ∧ (∀ t ∈ ts, woE t.2 t.1 N xs.length = 0) ∧ (scS F N base ts xs).1 = ts.foldl (addT N xs) base := by
  unfold scS at h ⊢
  split at h
  · cases h
  · rename_i h0
    rw [if_neg h0]
    split at h
    · cases h
    · rename_i h1
      rw [if_neg h1]
      have := scF_ok h
      exact ⟨by omega, by omega, by omega, this.1, this.2⟩
theorem scS_of {F : Nat} {N : Int} {base : List Int} {ts : List (Int × List Nd)} {xs : List Nat} (h1 : 1 ≤ N) (h2 : (base.length : Int) = N) (h3 : xs.length = F) (h4 : ∀ t ∈ ts, woE t.2 t.1 N xs.length = 0) : scS F N base ts xs = (ts.foldl (addT N xs) base, 0) := by
  unfold scS
  rw [if_neg (by omega), if_neg (by omega), scF_of h4]
theorem wrap64_add (a b : Int) : wrap64 (wrap64 a + b) = wrap64 (a + b) := by unfold wrap64; omega
theorem addT_comm (N : Int) (xs : List Nat) (s : List Int) (t u : Int × List Nd) : addT N xs (addT N xs s t) u = addT N xs (addT N xs s u) t := by
  unfold addT
  generalize woV t.2 t.1 N xs = p
  generalize woV u.2 u.1 N xs = q
  generalize t.1.toNat = a
  generalize u.1.toNat = b
  by_cases e : a = b
  · subst e
    by_cases hl : a < s.length
    · simp only [List.set_set]
      have h1 : ∀ y : Int, (s.set a y).getD a 0 = y := by intro y; simp [List.getD, hl]
      rw [h1, h1, wrap64_add, wrap64_add, Int.add_right_comm]
    · have h1 : ∀ (y : Int), s.set a y = s := fun y => List.set_eq_of_length_le (by omega)
      simp only [h1]
  · have h1 : ∀ y : Int, (s.set a y).getD b 0 = s.getD b 0 := by intro y; simp [List.getD, List.getElem?_set, e]
    have h2 : ∀ y : Int, (s.set b y).getD a 0 = s.getD a 0 := by intro y; simp [List.getD, List.getElem?_set, Ne.symm e]
    rw [h1, h2, List.set_comm _ _ e]
theorem fold_perm {N : Int} {xs : List Nat} {ts us : List (Int × List Nd)} (h : ts.Perm us) (s : List Int) : ts.foldl (addT N xs) s = us.foldl (addT N xs) s :=
  h.foldl_eq' (fun x _ y _ z => addT_comm N xs z x y) s
theorem fold_take {N : Int} {xs : List Nat} {ts : List (Int × List Nd)} {k : Nat} (hk : k < ts.length) (s : List Int) : (ts.take (k + 1)).foldl (addT N xs) s = addT N xs ((ts.take k).foldl (addT N xs) s) (ts.getD k (0, [])) := by
  rw [List.take_succ_eq_append_getElem hk, List.foldl_append]
  simp [List.getD, hk]
theorem wo_lf {L : List Nd} {out N : Int} {xs : List Nat} (h : woE L out N xs.length = 0) : wyE L xs.length = 0 ∧ lfV L xs = woV L out N xs := by
  obtain ⟨h1, h2, h3, h4⟩ := woE_ok h
  have e : wyE L xs.length = 0 := by unfold wyE; rw [if_pos h1, h4]; rfl
  refine ⟨e, ?_⟩
  unfold lfV woV
  rw [if_pos e, if_pos h]
theorem wo_cno {L : List Nd} {out N : Int} {xs : List Nat} (h : woE L out N xs.length = 0) : woE (cnoN L) (cnoO L out) N xs.length = 0 ∧ woV (cnoN L) (cnoO L out) N xs = woV L out N xs := by
  obtain ⟨h1, h2, h3, h4⟩ := woE_ok h
  obtain ⟨h5, h6⟩ := wo_lf h
  have hO : cnoO L out = out := if_pos h1
  rw [cno_N h1, hO]
  have e : woE (cnoL L) out N xs.length = 0 := by
    unfold woE
    rw [if_pos (cno_shE h1), if_neg (by omega), cno_lack h1, h4]
    rfl
  refine ⟨e, ?_⟩
  rw [← (wo_lf e).2, ← h6, cno_lfV h1]
theorem md_all {N : Int} {xs : List Nat} : ∀ {ts : List (Int × List Nd)}, (∀ t ∈ ts, woE t.2 t.1 N xs.length = 0) → mdE ts = 0 ∧ (∀ t ∈ mdT ts, woE t.2 t.1 N xs.length = 0) ∧ ∀ s, (mdT ts).foldl (addT N xs) s = ts.foldl (addT N xs) s
  | [], _ => ⟨rfl, by simp [mdT], fun s => rfl⟩
  | t :: ts, h => by
    have h0 := h t (List.mem_cons_self ..)
    obtain ⟨i1, i2, i3⟩ := md_all (ts := ts) (fun u hu => h u (List.mem_cons_of_mem _ hu))
    have hc := wo_cno h0
    obtain ⟨h1, -⟩ := woE_ok h0
    refine ⟨by rw [mdE, if_pos h1]; exact i1, ?_, fun s => ?_⟩
    · intro u hu
      rcases List.mem_cons.1 (show u ∈ (cnoO t.2 t.1, cnoN t.2) :: mdT ts from hu) with rfl | hu
      · exact hc.1
      · exact i2 u hu
    · show ((cnoO t.2 t.1, cnoN t.2) :: mdT ts).foldl (addT N xs) s = _
      rw [List.foldl_cons, List.foldl_cons, i3]
      have : addT N xs s (cnoO t.2 t.1, cnoN t.2) = addT N xs s t := by
        unfold addT
        have h2 := hc.2
        rw [show cnoO t.2 t.1 = t.1 from if_pos h1] at h2 ⊢
        simp only [h2]
      rw [this]
/-- What an ensemble's score is, of the trees in any order, and numbered anew. -/
theorem sums_all {F : Nat} {N : Int} {base : List Int} {ts : List (Int × List Nd)} {xs : List Nat} (h : (scS F N base ts xs).2 = 0) :
    (∀ us : List (Int × List Nd), us.Perm ts → scS F N base us xs = ((scS F N base ts xs).1, 0)) ∧ mdE ts = 0 ∧ scS F N base (mdT ts) xs = ((scS F N base ts xs).1, 0) := by
  obtain ⟨h1, h2, h3, h4, h5⟩ := scS_ok h
  obtain ⟨m1, m2, m3⟩ := md_all h4
  refine ⟨fun us hp => ?_, m1, ?_⟩
  · rw [scS_of h1 h2 h3 (fun t ht => h4 t (hp.mem_iff.1 ht)), fold_perm hp, h5]
  · rw [scS_of h1 h2 h3 m2, m3, h5]
end Go.Proofs.Ytbchinfmdioijaa
