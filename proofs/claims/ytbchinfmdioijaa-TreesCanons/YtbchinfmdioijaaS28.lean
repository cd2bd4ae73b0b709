import Derived.Test.YtbchinfmdioijaaS26
set_option linter.unusedVariables false
set_option linter.unusedSimpArgs false
namespace Go.Proofs.Ytbchinfmdioijaa
open Go.RowKit Go.Shelf
theorem ord_full {L : List Nd} (h : shE L = 0) : (ord (shp L) L.length).length = L.length := by
  have ht := shE_tr h
  have h1 := ord_len ht.wi
  have h2 := List.Nodup.length_le_of_subset (l₁ := List.range L.length) (l₂ := ord (shp L) L.length) List.nodup_range (fun i hi => ord_all ht (List.mem_range.1 hi))
  rw [List.length_range] at h2
  omega
theorem zip_other : ∀ (l : List Nat) (s : Nat) (a : List Nat) (x : Nat), x ∉ l → ((l.zipIdx s).foldl (fun a y => a.set y.1 y.2) a).getD x 0 = a.getD x 0
  | [], s, a, x, _ => rfl
  | y :: l, s, a, x, h => by
    rw [List.zipIdx_cons, List.foldl_cons, zip_other l (s + 1) _ x (fun e => h (List.mem_cons_of_mem _ e))]
    have hne : y ≠ x := fun e => h (e ▸ List.mem_cons_self ..)
    simp [List.getD, List.getElem?_set, hne]
theorem zip_at : ∀ (l : List Nat) (s : Nat) (a : List Nat) (j : Nat), l.Nodup → (hj : j < l.length) → l[j] < a.length → ((l.zipIdx s).foldl (fun a y => a.set y.1 y.2) a).getD l[j] 0 = s + j
  | [], s, a, j, _, hj, _ => by simp at hj
  | y :: l, s, a, 0, hn, _, hl => by
    rw [List.zipIdx_cons, List.foldl_cons]
    simp only [List.getElem_cons_zero] at hl ⊢
    rw [zip_other l (s + 1) _ y (List.nodup_cons.1 hn).1]
    simp [List.getD, hl]
  | y :: l, s, a, j + 1, hn, hj, hl => by
    rw [List.zipIdx_cons, List.foldl_cons]
    simp only [List.getElem_cons_succ] at hl ⊢
    rw [zip_at l (s + 1) _ j (List.nodup_cons.1 hn).2 (by simpa using hj) (by simpa using hl)]
    omega
/-- anF is the inverse of the order. -/
theorem anF_at {n : Nat} {p : List Nat} (hn : p.Nodup) {j : Nat} (hj : j < p.length) (hl : p[j] < n) : (anF n p).getD p[j] 0 = j := by
  unfold anF
  rw [zip_at p 0 _ j hn hj (by simpa using hl)]
  omega
theorem ord_head (t : Sh) (n : Nat) : ∃ q, ord t n = 0 :: q := by
  have h : [0] <+: ord t n := by
    unfold ord
    rw [show 3 * n + 1 = (3 * n) + 1 from rfl, go]
    simp only [List.not_mem_nil, if_false, List.nil_append]
    exact go_pre t _ _ _
  obtain ⟨q, hq⟩ := h
  exact ⟨q, by rw [← hq]; rfl⟩
theorem anF_zero {L : List Nd} (h : shE L = 0) : (anF L.length (ord (shp L) L.length)).getD 0 0 = 0 := by
  have ht := shE_tr h
  obtain ⟨q, hq⟩ := ord_head (shp L) L.length
  have hl : 0 < (ord (shp L) L.length).length := by rw [hq]; simp
  have e : (ord (shp L) L.length)[0] = 0 := by simp [hq]
  have := anF_at (n := L.length) (ord_nodup ht.wi) hl (by rw [e]; exact (shE_rgt h).1)
  rw [e] at this
  exact this
/-- A leaf stays as it is. -/
theorem rnN_leaf {L : List Nd} (h : shE L = 0) {i : Nat} (hi : i < L.length) (hk : (L.getD i nd0).kd = 1) : rnN (anF L.length (ord (shp L) L.length)) (L.getD i nd0) = L.getD i nd0 := by
  have hr := (shE_rgt h).2 i hi
  have hz := anF_zero h
  generalize L.getD i nd0 = n at *
  unfold rightB at hr
  rw [if_pos hk] at hr
  simp only [Bool.and_eq_true, decide_eq_true_eq] at hr
  have e1 : n.lf = 0 := hr.1.2
  have e2 : n.rt = 0 := hr.2
  obtain ⟨kd, vl, ft, th, cs, ms, lf, rt⟩ := n
  simp only at e1 e2
  subst e1 e2
  unfold rnN
  simp only [Int.toNat_zero, hz]
  rfl
set_option maxRecDepth 100000 in
set_option maxHeartbeats 2000000 in
theorem rCanon_err (a : Option Addr) (cap : Nat) (out : Int) (L : List Nd) (hLn : L.length ≤ 2199023255552) (hE : shE L ≠ 0) (w : World) (hrd : RdN w a L) :
    Calls Try.prog 38 #[.agg #[.int .i64 out, .slice a L.length cap]] w fun e w' => e = .returned (.tuple #[.agg #[.int .i64 0, .slice none 0 0], .int .i64 (shE L)]) ∧ Keep w w' := by
  obtain ⟨w1, hw1, k1, s1, r0, r1⟩ := boxes2n w #[Value.int .i64 out, Value.slice a L.length cap] #[Value.int .i64 0, Value.slice none 0 0] 24 24
  have hS1 := rShape_any w1 a cap out L hLn (hrd.keep k1)
  have hB : (shE L == 0) = false := by simpa using hE
  have hB2 : (shE L != 0) = true := by simpa using hE
  have hz1 : w.heap.size + 1 < w1.heap.size := (Array.getElem?_eq_some_iff.1 r1).1
  clear hE
  generalize shE L = E at hB hB2 hS1 ⊢
  replace hw1 : Hid _ := hw1
  go_enter Try.func38, Try.ntmps38
  go_wp2_with fail
  rw [hw1.out]
  refine hS1.mono ?_
  rintro e w2 ⟨rfl, k2⟩
  have q1 := (k2.block _ hz1).trans r1
  have e0 := cell_of_row w2 _ 0 _ 24 (0, 0) q1
  have e1 := cell_of_row w2 _ 1 _ 24 (0, 0) q1
  have f0 := frozen_of_row w2 _ 0 _ 24 q1
  have f1 := frozen_of_row w2 _ 1 _ 24 q1
  simp at e0 e1
  replace q1 : Hid _ := q1
  go_wp2_with fail
  have F2 : ((w2.setCell ⟨w.heap.size + 1, 0, none⟩ (.int .i64 0)).setCell ⟨w.heap.size + 1, 1, none⟩ (.slice none 0 0)).heap[w.heap.size + 1]? = some (.cells #[.int .i64 0, .slice none 0 0] 24 (0, 0)) := by
    have a1 := heap_setCell_same _ (w.heap.size + 1) 0 _ 24 (.int .i64 0) q1.out
    have a2 := heap_setCell_same _ (w.heap.size + 1) 1 _ 24 (.slice none 0 0) a1
    simpa using a2
  try simp only [Exit.inBlock, Exit.then]
  refine bodyPost_ret (results_cell_tmp rfl _ _ (w.heap.size + 1) 24 _ (0, 0) _ rfl F2 Try.underlying24 rfl (by kernel_rfl)) rfl ?_
  exact ⟨rfl, ((k1.trans k2).setCell (p := ⟨w.heap.size + 1, 0, none⟩) (by show w.heap.size ≤ w.heap.size + 1; omega) _).setCell (p := ⟨w.heap.size + 1, 1, none⟩) (by show w.heap.size ≤ w.heap.size + 1; omega) _⟩
end Go.Proofs.Ytbchinfmdioijaa
set_option linter.unusedVariables false
set_option linter.unusedSimpArgs false
namespace Go.Proofs.Ytbchinfmdioijaa
open Go.RowKit Go.Shelf
attribute [local go_sem] run_store_float
/-- What the reference's Canon holds between two rounds of its second loop: the row lies in the second field of the box B. -/
structure NJt (us : List Nd) (w3 W : World) (B : Nat) (h0 : Value) (k : Nat) (v : Value) (wr : World) (K : List (Nd × Option Addr × Nat)) : Prop where
  len : K.length = k
  eq : ∀ j, j < k → (K.getD j nt0).1 = us.getD j nd0
  own : OwnN W.heap.size wr v K
  cats : ∀ j, j < k → OwnZ 3 W.heap.size wr (.slice (K.getD j nt0).2.1 (K.getD j nt0).1.cs.length (K.getD j nt0).2.2) (K.getD j nt0).1.cs
  ne : ∀ j, j < k → ∀ b, (Value.slice (K.getD j nt0).2.1 (K.getD j nt0).1.cs.length (K.getD j nt0).2.2).ownBlock = some b → v.ownBlock ≠ some b
  kp : Keep w3 wr
  sz : W.heap.size ≤ wr.heap.size
  bx : wr.heap[B]? = some (.cells #[h0, v] 24 (0, 0))
  low : ∀ b, b < W.heap.size → b ≠ B → wr.heap[b]? = W.heap[b]?
theorem NJt.step {us : List Nd} {w3 W : World} {B : Nat} {h0 : Value} {k : Nat} {v : Value} {wr : World} {K : List (Nd × Option Addr × Nat)} (hI : NJt us w3 W B h0 k v wr K) (hB : B < W.heap.size) (hB2 : w3.heap.size ≤ B) {N : Nd} {va : Option Addr} {cc : Nat} {Wq w7 : World} {v' : Value}
    (hN : us.getD k nd0 = N) (kW : Keep wr Wq) (hO : OwnZ 3 wr.heap.size Wq (.slice va N.cs.length cc) N.cs) (hO5 : OwnN W.heap.size w7 v' (K ++ [(N, va, cc)])) (g5 : Wq.grownBy w7 v.ownBlock) (hv : v'.ownBlock = v.ownBlock ∨ v'.ownBlock = some Wq.heap.size) :
    NJt us w3 W B h0 (k + 1) v' (w7.setCell ⟨B, 1, none⟩ v') (K ++ [(N, va, cc)]) := by
  have hlt : ∀ b, v.ownBlock = some b → W.heap.size ≤ b ∧ b < wr.heap.size := by
    intro b hb
    obtain ⟨h1, cur, hc⟩ := hI.own.block hb
    exact ⟨h1, (Array.getElem?_eq_some_iff.1 hc).1⟩
  have hC : ∀ j, j < k → ∀ b, (Value.slice (K.getD j nt0).2.1 (K.getD j nt0).1.cs.length (K.getD j nt0).2.2).ownBlock = some b → W.heap.size ≤ b ∧ b < wr.heap.size := by
    intro j hj b hb
    obtain ⟨h1, cur, hc⟩ := (hI.cats j hj).block hb
    exact ⟨h1, (Array.getElem?_eq_some_iff.1 hc).1⟩
  have hN' : ∀ b, (Value.slice va N.cs.length cc).ownBlock = some b → wr.heap.size ≤ b ∧ b < Wq.heap.size := by
    intro b hb
    obtain ⟨h1, cur, hc⟩ := hO.block hb
    exact ⟨h1, (Array.getElem?_eq_some_iff.1 hc).1⟩
  have hle := kW.le
  have hle0 := hI.sz
  have hsz := g5.size
  have hne0 : v.ownBlock ≠ some B := fun e => by have := (hlt B e).1; omega
  have hbl : ∀ b, b < Wq.heap.size → v.ownBlock ≠ some b → w7.heap[b]? = Wq.heap[b]? := fun b hb hne => g5.block b hb (fun e => hne e.symm)
  have hbs : ∀ b, b ≠ B → (w7.setCell ⟨B, 1, none⟩ v').heap[b]? = w7.heap[b]? := fun b hb => neq_set w7 _ _ _ b hb
  have hss : (w7.setCell ⟨B, 1, none⟩ v').heap.size = w7.heap.size := by simp
  refine ⟨by rw [List.length_append, hI.len]; rfl, ?_, ?_, ?_, ?_, ?_, ?_, ?_, ?_⟩
  · intro j hj
    rw [getD_snocN, hI.len]
    by_cases e : j = k
    · rw [if_pos e, e, hN]
    · rw [if_neg e]; exact hI.eq j (by omega)
  · exact hO5.same (fun b hb => hbs b (by have := (hO5.block hb).1; omega))
  · intro j hj
    rw [getD_snocN, hI.len]
    by_cases e : j = k
    · rw [if_pos e]
      refine (hO.mono (by omega)).same ?_
      intro b hb
      obtain ⟨h1, h2⟩ := hN' b hb
      rw [hbs b (by omega)]
      exact hbl b h2 (fun e => by have := hlt b e; omega)
    · rw [if_neg e]
      have hj' : j < k := by omega
      refine (hI.cats j hj').same ?_
      intro b hb
      have h1 := hC j hj' b hb
      rw [hbs b (by omega), hbl b (by omega) (hI.ne j hj' b hb), kW.block b h1.2]
  · intro j hj
    rw [getD_snocN, hI.len]
    by_cases e : j = k
    · rw [if_pos e]
      intro b hb e2
      obtain ⟨h1, h2⟩ := hN' b hb
      rcases hv with h | h
      · rw [h] at e2; have := hlt b e2; omega
      · rw [h] at e2; simp only [Option.some.injEq] at e2; omega
    · rw [if_neg e]
      have hj' : j < k := by omega
      intro b hb e2
      have h1 := hC j hj' b hb
      rcases hv with h | h
      · rw [h] at e2; exact hI.ne j hj' b hb e2
      · rw [h] at e2; simp only [Option.some.injEq] at e2; omega
  · exact Keep.setCell (Below.grown (hI.kp.trans kW) g5 (by have := hI.kp.le; omega) (fun b hb => by have := (hlt b hb).1; omega)) (p := ⟨B, 1, none⟩) hB2 _
  · omega
  · have e1 : w7.heap[B]? = some (.cells #[h0, v] 24 (0, 0)) := (hbl B (by omega) hne0).trans ((kW.block B (by omega)).trans hI.bx)
    have := heap_setCell_same w7 B 1 _ 24 v' e1
    simpa using this
  · intro b hb hbB
    rw [hbs b hbB, hbl b (by omega) (fun e => by have := (hlt b e).1; omega), kW.block b (by omega)]
    exact hI.low b hb hbB
set_option maxRecDepth 100000 in
set_option maxHeartbeats 4000000 in
theorem rCanon_ok (a : Option Addr) (cap : Nat) (out : Int) (L : List Nd) (hLn : L.length ≤ 1759218604441) (hcap : L.length ≤ cap) (hE : shE L = 0) (w : World) (hrd : RdN w a L) :
    Calls Try.prog 38 #[.agg #[.int .i64 out, .slice a L.length cap]] w fun e w' => ∃ a' c', e = .returned (.tuple #[.agg #[.int .i64 out, .slice a' (cnoL L).length c'], .int .i64 0]) ∧ (cnoL L).length ≤ c' ∧ CT w' (fun b => w.heap.size ≤ b ∧ b < w'.heap.size) a' c' (cnoL L) ∧ Keep w w' := by
  have hR := shE_rgt hE
  have hL2 : L.length ≤ 2199023255552 := by omega
  obtain ⟨w1, hw1, k1, s1, r0, r1⟩ := boxes2n w #[Value.int .i64 out, Value.slice a L.length cap] #[Value.int .i64 0, Value.slice none 0 0] 24 24
  have hS1 := rShape_any w1 a cap out L hL2 (hrd.keep k1)
  rw [hE] at hS1
  have hOr := fun (wx : World) (k : Keep w wx) => (callsIn_wide (n := 3)).1 (rOrder_in 3 (by omega) wx a cap out L hL2 hE (hrd.keep k))
  have hz0 : w.heap.size < w1.heap.size := (Array.getElem?_eq_some_iff.1 r0).1
  have hz1 : w.heap.size + 1 < w1.heap.size := (Array.getElem?_eq_some_iff.1 r1).1
  obtain ⟨i0, hi, hi0, hi1, hi2⟩ := info_parts i3
  have hpf := ord_full hE
  obtain ⟨p, hp⟩ : ∃ p, ord (shp L) L.length = p := ⟨_, rfl⟩
  rw [hp] at hpf
  have mk := fun (wx : World) => run_make (P := Try.prog) wx 29 3 i0 _ Try.underlying29 hi hi0 .i64 .i64 (p.length : Nat) (p.length : Nat) (by omega) (by omega) (by rw [hi2]; omega) (by omega)
  simp only [hi1, Int.toNat_natCast, Nat.mul_one, made3] at mk
  rw [hp] at hOr
  have hpl : p.length ≤ 1759218604441 := by omega
  replace hpf : Hid _ := hpf
  replace hw1 : Hid _ := hw1
  replace r0 : Hid _ := r0
  replace r1 : Hid _ := r1
  go_enter Try.func38, Try.ntmps38
  go_wp2_with fail
  rw [hw1.out]
  refine hS1.mono ?_
  rintro e w2 ⟨rfl, k2⟩
  have q0 := (k2.block _ hz0).trans r0.out
  have q1 := (k2.block _ hz1).trans r1.out
  have c0 := cell_of_row w2 _ 0 _ 24 (0, 0) q0
  have c1 := cell_of_row w2 _ 1 _ 24 (0, 0) q0
  simp at c0 c1
  have k02 := k1.trans k2
  replace q0 : Hid _ := q0
  replace q1 : Hid _ := q1
  go_wp2_with fail
  refine (hOr _ k02).mono ?_
  rintro e w3 ⟨v3, rfl, o3, b3, k3⟩
  obtain ⟨g, cv, rfl, hcv, hg, hcell⟩ := o3.cells (by rw [hpf.out]; exact hR.1)
  have k03 := k02.trans k3
  have c03 := k3.cell c0
  have c13 := k3.cell c1
  have hz3 : w.heap.size + 1 < w3.heap.size := by have := k2.le; have := k3.le; omega
  clear hS1 hOr o3 b3
  go_wp2_with fail
  have rowA : RowI (w3.alloc (Obj.cells (UI (List.replicate p.length 0)).toArray 3)) w3.heap.size (anF p.length (p.take 0)) := by
    unfold RowI
    rw [heap_alloc_new w3 _]
    simp [anF]
  have kA : Keep w3 (w3.alloc (Obj.cells (UI (List.replicate p.length 0)).toArray 3)) := (Keep.refl w3).alloc _
  have sA : (w3.alloc (Obj.cells (UI (List.replicate p.length 0)).toArray 3)).heap.size = w3.heap.size + 1 := by simp
  generalize w3.alloc (Obj.cells (UI (List.replicate p.length 0)).toArray 3) = w4 at rowA kA sA ⊢
  go_loopw [30] (fun iv wr => ∃ k : Nat, k ≤ p.length ∧ iv = .int .i64 k ∧ RowI wr w3.heap.size (anF p.length (p.take k)) ∧ Keep w3 wr ∧ wr.heap.size = w3.heap.size + 1) (fun iv _ => p.length - (intOf iv).toNat)
  case atStart => exact ⟨0, by omega, rfl, rowA, kA, sA⟩
  case round =>
    obtain ⟨k, hk, rfl, hrow, kw, hs⟩ := hrel
    by_cases hkl : k < p.length
    · have hkc : (k : Int) < (p.length : Int) := by omega
      have hc := kw.cell (hcell k hkl)
      obtain ⟨x, hx⟩ : ∃ x, p.getD k 0 = x := ⟨_, rfl⟩
      have hxl : x < p.length := by rw [hpf.out, ← hx]; exact ord_lt hR.wi _ (by rw [hp]; simp [List.getD, hkl])
      rw [hx] at hc
      have hxc : (x : Int) < (p.length : Int) := by omega
      have y0 := hrow.cell x (by rw [anF_len]; exact hxl)
      have f0 := hrow.frozen x
      have hset := hrow.set x k
      have HS : Hid ((anF p.length (p.take k)).set x k = anF p.length (p.take (k + 1))) := by
        show _ = _
        have e : p.take (k + 1) = p.take k ++ [x] := by
          have e2 : x = p[k] := by rw [← hx]; simp [List.getD, hkl]
          rw [e2]; exact (List.take_append_getElem hkl).symm
        rw [e, anF_snoc]
        simp [Nat.min_eq_left hk]
      clear hx
      go_wp2_with fail
      rw [HS.out] at hset
      exact ⟨⟨k + 1, by omega, by go_num, hset, kw.setCell (p := ⟨w3.heap.size, x, none⟩) (Nat.le_refl _) _, by simpa using hs⟩, by simp [intOf]; omega⟩
    · have hkc : ¬ (k : Int) < (p.length : Int) := by omega
      obtain rfl : k = p.length := by omega
      rw [List.take_length] at hrow
      have d0 := kw.cell c03
      go_wp2_with fail
      have tb : (wr.alloc (Obj.cells #[Value.int IntKind.i64 out, Value.slice none 0 0] 24)).heap[w3.heap.size + 1]? = some (Obj.cells #[Value.int IntKind.i64 out, Value.slice none 0 0] 24 (0, 0)) := by rw [← hs]; exact heap_alloc_new wr _
      have kb : Keep wr (wr.alloc (Obj.cells #[Value.int IntKind.i64 out, Value.slice none 0 0] 24)) := (Keep.refl wr).alloc _
      have sW : (wr.alloc (Obj.cells #[Value.int IntKind.i64 out, Value.slice none 0 0] 24)).heap.size = w3.heap.size + 2 := by simp; omega
      have rowW : RowI (wr.alloc (Obj.cells #[Value.int IntKind.i64 out, Value.slice none 0 0] 24)) w3.heap.size (anF p.length p) := by unfold RowI; rw [kb.block _ (by omega)]; exact hrow
      generalize wr.alloc (Obj.cells #[Value.int IntKind.i64 out, Value.slice none 0 0] 24) = W at tb kb sW rowW ⊢
      have k3W : Keep w3 W := kw.trans kb
      clear kw kb hrow d0 hs
      go_loopw [45] (fun iv wr => ∃ (k : Nat) (v : Value) (K : List (Nd × Option Addr × Nat)), k ≤ p.length ∧ iv = .int .i64 k ∧ NJt (cnoL L) w3 W (w3.heap.size + 1) (.int .i64 out) k v wr K) (fun iv _ => p.length - (intOf iv).toNat)
      case atStart => exact ⟨0, .slice none 0 0, [], by omega, rfl, rfl, fun j hj => by omega, OwnN.nil _ _, fun j hj => by omega, fun j hj => by omega, k3W, Nat.le_refl _, tb, fun b _ _ => rfl⟩
      case round =>
        obtain ⟨k, v, K, hk, rfl, hI⟩ := hrel
        by_cases hkl : k < p.length
        · have hkc : (k : Int) < (p.length : Int) := by omega
          have hc := hI.kp.cell (hcell k hkl)
          have d1 := hI.kp.cell c13
          obtain ⟨x, hx⟩ : ∃ x, p.getD k 0 = x := ⟨_, rfl⟩
          have hxl : x < L.length := by rw [← hx]; exact ord_lt hR.wi _ (by rw [hp]; simp [List.getD, hkl])
          rw [hx] at hc
          obtain ⟨b, o, ca, cp, rfl, hnd⟩ := (hrd.keep (k03.trans hI.kp)) x hxl
          obtain ⟨N, hN⟩ : ∃ N, L.getD x nd0 = N := ⟨_, rfl⟩
          have HN : Hid (L.getD x nd0 = N) := hN
          rw [hN] at hnd
          have rd1 : RdN wr (some ⟨b, o + x * 8, none⟩) [N] := by
            intro j hj
            obtain rfl : j = 0 := by simpa using hj
            exact ⟨b, o + x * 8, ca, cp, rfl, by simpa using hnd⟩
          have hNd := rNodes_any (some ⟨b, o + x * 8, none⟩) (cap - x) [N] wr (by simp) rd1
          simp only [List.length_singleton] at hNd
          have wr1 : IntKind.i64.wrap ((x : Int) + 1) = (x : Int) + 1 := IntWalk.i64_in _ (by omega)
          have hb1 : (x : Int) + 1 ≤ (cap : Int) := by omega
          have hb2 : (0 : Int) ≤ (x : Int) := by omega
          have hb3 : (x : Int) ≤ (x : Int) + 1 := by omega
          have HX : Hid (p.getD k 0 = x) := hx
          clear hx hN
          go_wp2_with fail
          refine hNd.mono ?_
          rintro e w6 ⟨v6, rfl, ⟨K1, h6⟩, k6⟩
          obtain ⟨a6, c6, rfl, hc6, hr6⟩ := h6.own.shape
          have hl6 := h6.len
          rw [hl6] at hc6 hr6 ⊢
          obtain ⟨b6, rfl, hb6⟩ := hr6 0 (by omega)
          have he6 := h6.eq 0 (by omega)
          have hO6 := h6.cats 0 (by omega)
          obtain ⟨r, hr⟩ : ∃ r, K1.getD 0 nt0 = r := ⟨_, rfl⟩
          rw [hr] at hb6 he6 hO6
          obtain ⟨N1, va, cc⟩ := r
          simp only [List.getD_cons_zero] at he6 hO6
          rw [he6] at hb6 hO6
          have d0 := hb6 0 _ (by omega) rfl
          have d1' := hb6 1 _ (by omega) rfl
          have d2 := hb6 2 _ (by omega) rfl
          have d3 := hb6 3 _ (by omega) rfl
          have d4 := hb6 4 _ (by omega) rfl
          have d5 := hb6 5 _ (by omega) rfl
          have d6 := hb6 6 _ (by omega) rfl
          have d7 := hb6 7 _ (by omega) rfl
          simp only [Nat.zero_mul, Nat.zero_add] at d0 d1' d2 d3 d4 d5 d6 d7
          have hzB : w3.heap.size + 1 < wr.heap.size := (Array.getElem?_eq_some_iff.1 hI.bx).1
          have hKl : K.length + 1 ≤ 1759218604441 := by have := hI.len; omega
          have rowr : RowI w6 w3.heap.size (anF p.length p) := by
            unfold RowI
            rw [k6.block _ (by omega), hI.low _ (by omega) (by omega)]
            exact rowW
          have bq := fun ob => ((k6.alloc ob).block _ hzB).trans hI.bx
          have cB := fun ob => cell_of_row _ _ 1 _ 24 (0, 0) (bq ob)
          simp only [List.getElem?_toArray, List.getElem?_cons_zero, List.getElem?_cons_succ] at cB
          obtain ⟨⟨li, hli, hln⟩, ri, hri, hrn⟩ := hR.sides hxl
          rw [HN.out] at hli hri
          have HC : Hid ((cnoL L).getD k nd0 = rnN (anF p.length p) N) := by
            show _ = _
            unfold cnoL
            rw [hp, ← hpf.out, ← HN.out, ← HX.out]
            simp [List.getD, hkl]
          replace bq : Hid _ := bq
          clear hb6 hc6 hr6 h6 hNd rd1 hnd hc d1
          by_cases hkd : N.kd = 1
          · have HU : Hid ((cnoL L).getD k nd0 = N) := by
              show _ = _
              rw [HC.out, hpf.out, ← hp]
              have := rnN_leaf hE hxl (by rw [HN.out]; exact hkd)
              rw [HN.out] at this
              exact this
            have hk1 : ((N.kd : Int) == 1) = true := by simp [hkd]
            have hk2 : ((N.kd : Int) != 1) = false := by simp [hkd]
            replace hkd : Hid _ := hkd
            replace hli : Hid _ := hli
            replace hri : Hid _ := hri
            go_wp2_with (first | (at_builtin; refine wpList_appN W.heap.size _ rfl _ _ rfl K (N, va, cc) v ?_ (hI.own.keep ((k6.alloc _).alloc _)) (Nat.le_trans hI.sz ((k6.alloc _).alloc _).le) ⟨w6.heap.size + 1, 0, none⟩ 1 ?_ (newsN (w6.alloc (Obj.cells #[Value.int IntKind.u8 N.kd, Value.int IntKind.i64 N.vl, Value.int IntKind.i64 N.ft, Value.float FloatKind.f64 N.th, Value.slice va N.cs.length cc, Value.int IntKind.u8 N.ms, Value.int IntKind.i64 N.lf, Value.int IntKind.i64 N.rt] 40)) _ (by simp) N va cc) hKl ?_; rotate_left 2; intro v7 w7 hO7 g7 hv7; obtain ⟨a7, c7, rfl, hc7, -⟩ := hO7.shape; have bx7 : w7.heap[w3.heap.size + 1]? = some (.cells #[.int .i64 out, v] 24 (0, 0)) := (g7.block _ (by simp only [World.size_alloc]; have := k6.le; omega) (fun e => by have := (hI.own.block e.symm).1; omega)).trans ((((k6.alloc _).alloc _).block _ hzB).trans hI.bx); have z1 := cell_of_row _ _ 1 _ 24 (0, 0) bx7; have f1 := frozen_of_row _ _ 1 _ 24 bx7; simp only [List.getElem?_toArray, List.getElem?_cons_zero, List.getElem?_cons_succ] at z1; replace bx7 : Hid _ := bx7))
            · have hJ := hI.step (by omega) (by omega) HU.out ((k6.alloc (Obj.cells #[Value.int IntKind.u8 N.kd, Value.int IntKind.i64 N.vl, Value.int IntKind.i64 N.ft, Value.float FloatKind.f64 N.th, Value.slice va N.cs.length cc, Value.int IntKind.u8 N.ms, Value.int IntKind.i64 N.lf, Value.int IntKind.i64 N.rt] 40)).alloc (Obj.cells #[Value.int IntKind.u8 N.kd, Value.int IntKind.i64 N.vl, Value.int IntKind.i64 N.ft, Value.float FloatKind.f64 N.th, Value.slice va N.cs.length cc, Value.int IntKind.u8 N.ms, Value.int IntKind.i64 N.lf, Value.int IntKind.i64 N.rt] 40)) ((hO6.keep ((Keep.refl w6).alloc _)).keep ((Keep.refl _).alloc _)) hO7 g7 (by simpa using hv7)
              rw [show (K ++ [(N, va, cc)]).length = K.length + 1 by simp] at hJ
              exact ⟨⟨k + 1, _, _, by omega, by go_num, hJ⟩, by simp [intOf]; omega⟩
            all_goals rfl
          · have hk1 : ((N.kd : Int) == 1) = false := by rw [beq_eq_false_iff_ne]; omega
            have hk2 : ((N.kd : Int) != 1) = true := by rw [bne_iff_ne]; omega
            obtain ⟨X, hX⟩ : ∃ X, (anF p.length p).getD li 0 = X := ⟨_, rfl⟩
            obtain ⟨Y, hY⟩ : ∃ Y, (anF p.length p).getD ri 0 = Y := ⟨_, rfl⟩
            have oX := fun ob => ((Keep.refl w6).alloc ob).cell (rowr.cell li (by rw [anF_len, hpf.out]; exact hln))
            have oY := fun ob => ((Keep.refl w6).alloc ob).cell (rowr.cell ri (by rw [anF_len, hpf.out]; exact hrn))
            rw [hX] at oX
            rw [hY] at oY
            have HU : Hid ((cnoL L).getD k nd0 = { N with lf := ((X : Nat) : Int), rt := ((Y : Nat) : Int) }) := by
              show _ = _
              rw [HC.out]
              unfold rnN
              simp only [hli, hri, Int.toNat_natCast, hX, hY]
            rw [hli] at d6
            rw [hri] at d7
            replace hli : Hid _ := hli
            replace hri : Hid _ := hri
            have hlc : (li : Int) < (p.length : Int) := by have := hpf.out; omega
            have hrc : (ri : Int) < (p.length : Int) := by have := hpf.out; omega
            clear hkd hX hY
            go_wp2_with (first | (at_builtin; refine wpList_appN W.heap.size _ rfl _ _ rfl K ({ N with lf := ((X : Nat) : Int), rt := ((Y : Nat) : Int) }, va, cc) v ?_ (hI.own.keep ((k6.alloc _).alloc _)) (Nat.le_trans hI.sz ((k6.alloc _).alloc _).le) ⟨w6.heap.size + 1, 0, none⟩ 1 ?_ (newsN (w6.alloc (Obj.cells #[Value.int IntKind.u8 N.kd, Value.int IntKind.i64 N.vl, Value.int IntKind.i64 N.ft, Value.float FloatKind.f64 N.th, Value.slice va N.cs.length cc, Value.int IntKind.u8 N.ms, Value.int IntKind.i64 (X : Nat), Value.int IntKind.i64 (Y : Nat)] 40)) _ (by simp) { N with lf := ((X : Nat) : Int), rt := ((Y : Nat) : Int) } va cc) hKl ?_; rotate_left 2; intro v7 w7 hO7 g7 hv7; obtain ⟨a7, c7, rfl, hc7, -⟩ := hO7.shape; have bx7 : w7.heap[w3.heap.size + 1]? = some (.cells #[.int .i64 out, v] 24 (0, 0)) := (g7.block _ (by simp only [World.size_alloc]; have := k6.le; omega) (fun e => by have := (hI.own.block e.symm).1; omega)).trans ((((k6.alloc _).alloc _).block _ hzB).trans hI.bx); have z1 := cell_of_row _ _ 1 _ 24 (0, 0) bx7; have f1 := frozen_of_row _ _ 1 _ 24 bx7; simp only [List.getElem?_toArray, List.getElem?_cons_zero, List.getElem?_cons_succ] at z1; replace bx7 : Hid _ := bx7))
            · have hJ := hI.step (by omega) (by omega) HU.out ((k6.alloc (Obj.cells #[Value.int IntKind.u8 N.kd, Value.int IntKind.i64 N.vl, Value.int IntKind.i64 N.ft, Value.float FloatKind.f64 N.th, Value.slice va N.cs.length cc, Value.int IntKind.u8 N.ms, Value.int IntKind.i64 (X : Nat), Value.int IntKind.i64 (Y : Nat)] 40)).alloc (Obj.cells #[Value.int IntKind.u8 N.kd, Value.int IntKind.i64 N.vl, Value.int IntKind.i64 N.ft, Value.float FloatKind.f64 N.th, Value.slice va N.cs.length cc, Value.int IntKind.u8 N.ms, Value.int IntKind.i64 (X : Nat), Value.int IntKind.i64 (Y : Nat)] 40)) ((hO6.keep ((Keep.refl w6).alloc _)).keep ((Keep.refl _).alloc _)) hO7 g7 (by simpa using hv7)
              rw [show (K ++ [(({ N with lf := ((X : Nat) : Int), rt := ((Y : Nat) : Int) } : Nd), va, cc)]).length = K.length + 1 by simp] at hJ
              exact ⟨⟨k + 1, _, _, by omega, by go_num, hJ⟩, by simp [intOf]; omega⟩
            all_goals rfl
        · have hkc : ¬ (k : Int) < (p.length : Int) := by omega
          obtain rfl : k = p.length := by omega
          obtain ⟨an, cn, rfl, hcn, -⟩ := hI.own.shape
          have hcl : (cnoL L).length = p.length := by unfold cnoL; rw [List.length_map, hp]
          have hlK := hI.len
          rw [hlK] at hcn
          have bxo := hI.bx
          rw [hlK] at bxo
          have m1 : wr.heap[w.heap.size + 1]? = some (.cells #[Value.int .i64 0, Value.slice none 0 0] 24 (0, 0)) := (hI.kp.block _ hz3).trans ((k3.block _ (by have := k2.le; omega)).trans q1.out)
          have x0 := cell_of_row wr _ 0 _ 24 (0, 0) bxo
          have x1 := cell_of_row wr _ 1 _ 24 (0, 0) bxo
          have e0 := cell_of_row wr _ 0 _ 24 (0, 0) m1
          have e1 := cell_of_row wr _ 1 _ 24 (0, 0) m1
          have f0 := frozen_of_row wr _ 0 _ 24 m1
          have f1 := frozen_of_row wr _ 1 _ 24 m1
          simp only [List.getElem?_toArray, List.getElem?_cons_zero, List.getElem?_cons_succ] at x0 x1 e0 e1
          replace m1 : Hid _ := m1
          replace bxo : Hid _ := bxo
          rw [hlK] at hI
          replace hlK : Hid _ := hlK
          go_wp2_with fail
          have F2 : ((wr.setCell ⟨w.heap.size + 1, 0, none⟩ (.int .i64 out)).setCell ⟨w.heap.size + 1, 1, none⟩ (.slice an p.length cn)).heap[w.heap.size + 1]? = some (.cells #[.int .i64 out, .slice an p.length cn] 24 (0, 0)) := by
            have a1 := heap_setCell_same _ (w.heap.size + 1) 0 _ 24 (.int .i64 out) m1.out
            have a2 := heap_setCell_same _ (w.heap.size + 1) 1 _ 24 (.slice an p.length cn) a1
            simpa using a2
          have F1 : ∀ g, g ≠ w.heap.size + 1 → ((wr.setCell ⟨w.heap.size + 1, 0, none⟩ (.int .i64 out)).setCell ⟨w.heap.size + 1, 1, none⟩ (.slice an p.length cn)).heap[g]? = wr.heap[g]? := fun g hg => by rw [neq_set _ _ _ _ g hg, neq_set _ _ _ _ g hg]
          try simp only [Exit.inBlock, Exit.then]
          refine bodyPost_ret (results_cell_tmp rfl _ _ (w.heap.size + 1) 24 _ (0, 0) _ rfl F2 Try.underlying24 rfl (by kernel_rfl)) rfl ?_
          refine ⟨an, cn, by first | rfl | (rw [hcl]; rfl), by first | exact hcn | (rw [hcl]; exact hcn), ?_, ?_⟩
          · refine ⟨K, by rw [hcl]; exact hlK.out, fun j hj => hI.eq j (by rw [hcl] at hj; exact hj), ?_, ?_, ?_, ?_⟩
            · rw [hcl]
              exact (hI.own.mono (Nat.zero_le _)).same (fun b hb => F1 b (by have := (hI.own.block hb).1; omega))
            · intro j hj
              rw [hcl] at hj
              exact ((hI.cats j hj).mono (Nat.zero_le _)).same (fun b hb => F1 b (by have := ((hI.cats j hj).block hb).1; omega))
            · intro b hb
              rw [hcl] at hb
              obtain ⟨h1, c, h2⟩ := hI.own.block (b := b) hb
              have := (Array.getElem?_eq_some_iff.1 h2).1
              exact ⟨by omega, by simp; omega⟩
            · intro j hj b hb
              rw [hcl] at hj
              obtain ⟨h1, c, h2⟩ := (hI.cats j hj).block hb
              have := (Array.getElem?_eq_some_iff.1 h2).1
              exact ⟨by omega, by simp; omega⟩
          · exact ((k03.trans hI.kp).setCell (p := ⟨w.heap.size + 1, 0, none⟩) (by show w.heap.size ≤ w.heap.size + 1; omega) _).setCell (p := ⟨w.heap.size + 1, 1, none⟩) (by show w.heap.size ≤ w.heap.size + 1; omega) _
theorem rCanon_any (a : Option Addr) (cap : Nat) (out : Int) (L : List Nd) (hLn : L.length ≤ 1759218604441) (hcap : L.length ≤ cap) (w : World) (hrd : RdN w a L) :
    Calls Try.prog 38 #[.agg #[.int .i64 out, .slice a L.length cap]] w fun e w' => ∃ a' c', e = .returned (.tuple #[.agg #[.int .i64 (cnoO L out), .slice a' (cnoN L).length c'], .int .i64 (shE L)]) ∧ (cnoN L).length ≤ c' ∧ CT w' (fun b => w.heap.size ≤ b ∧ b < w'.heap.size) a' c' (cnoN L) ∧ Keep w w' := by
  by_cases hE : shE L = 0
  · have e1 : cnoO L out = out := by unfold cnoO; rw [if_pos hE]
    have e2 : cnoN L = cnoL L := by unfold cnoN; rw [if_pos hE]
    rw [e1, e2, hE]
    exact rCanon_ok a cap out L hLn hcap hE w hrd
  · have e1 : cnoO L out = 0 := by unfold cnoO; rw [if_neg hE]
    have e2 : cnoN L = [] := by unfold cnoN; rw [if_neg hE]
    rw [e1, e2]
    refine (rCanon_err a cap out L (by omega) hE w hrd).mono ?_
    rintro e w' ⟨rfl, k⟩
    exact ⟨none, 0, rfl, by simp, ⟨[], rfl, fun j hj => by simp at hj, OwnN.nil _ _, fun j hj => by simp at hj, fun b hb => (by cases hb), fun j hj => by simp at hj⟩, k⟩
end Go.Proofs.Ytbchinfmdioijaa
