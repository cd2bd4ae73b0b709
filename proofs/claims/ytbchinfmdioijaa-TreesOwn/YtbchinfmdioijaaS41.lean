import Derived.Test.YtbchinfmdioijaaS40
set_option linter.unusedVariables false
set_option linter.unusedSimpArgs false
namespace Go.Proofs.Ytbchinfmdioijaa
open Go.RowKit Go.Shelf
attribute [local go_sem] run_store_float
/-- What the reference's Canon holds between two rounds of its second loop: the row lies in the second field of the box B. -/
structure NJt (us : List Nd) (w3 W : World) (B : Nat) (h0 : Value) (k : Nat) (v : Value) (wr : World) (K : List (Nd × Option Addr × Nat)) : Prop where
  len : K.length = k
  eq : ∀ j, j < k → (K.getD j nt0).1 = us.getD j nd0
  own : OwnN W.heap.size wr v K
  cats : ∀ j, j < k → OwnZ 3 W.heap.size wr (.slice (K.getD j nt0).2.1 (K.getD j nt0).1.cs.length (K.getD j nt0).2.2) (K.getD j nt0).1.cs
  ne : ∀ j, j < k → ∀ b, (Value.slice (K.getD j nt0).2.1 (K.getD j nt0).1.cs.length (K.getD j nt0).2.2).ownBlock = some b → v.ownBlock ≠ some b
  kp : Keep w3 wr
  sz : W.heap.size ≤ wr.heap.size
  bx : wr.heap[B]? = some (.cells #[h0, v] 24 (0, 0))
  low : ∀ b, b < W.heap.size → b ≠ B → wr.heap[b]? = W.heap[b]?
theorem NJt.step {us : List Nd} {w3 W : World} {B : Nat} {h0 : Value} {k : Nat} {v : Value} {wr : World} {K : List (Nd × Option Addr × Nat)} (hI : NJt us w3 W B h0 k v wr K) (hB : B < W.heap.size) (hB2 : w3.heap.size ≤ B) {N : Nd} {va : Option Addr} {cc : Nat} {Wq w7 : World} {v' : Value}
    (hN : us.getD k nd0 = N) (kW : Keep wr Wq) (hO : OwnZ 3 wr.heap.size Wq (.slice va N.cs.length cc) N.cs) (hO5 : OwnN W.heap.size w7 v' (K ++ [(N, va, cc)])) (g5 : Wq.grownBy w7 v.ownBlock) (hv : v'.ownBlock = v.ownBlock ∨ v'.ownBlock = some Wq.heap.size) :
    NJt us w3 W B h0 (k + 1) v' (w7.setCell ⟨B, 1, none⟩ v') (K ++ [(N, va, cc)]) := by
  have hlt : ∀ b, v.ownBlock = some b → W.heap.size ≤ b ∧ b < wr.heap.size := by
    intro b hb
    obtain ⟨h1, cur, hc⟩ := hI.own.block hb
    exact ⟨h1, (Array.getElem?_eq_some_iff.1 hc).1⟩
  have hC : ∀ j, j < k → ∀ b, (Value.slice (K.getD j nt0).2.1 (K.getD j nt0).1.cs.length (K.getD j nt0).2.2).ownBlock = some b → W.heap.size ≤ b ∧ b < wr.heap.size := by
    intro j hj b hb
    obtain ⟨h1, cur, hc⟩ := (hI.cats j hj).block hb
    exact ⟨h1, (Array.getElem?_eq_some_iff.1 hc).1⟩
  have hN' : ∀ b, (Value.slice va N.cs.length cc).ownBlock = some b → wr.heap.size ≤ b ∧ b < Wq.heap.size := by
    intro b hb
    obtain ⟨h1, cur, hc⟩ := hO.block hb
    exact ⟨h1, (Array.getElem?_eq_some_iff.1 hc).1⟩
  have hle := kW.le
  have hle0 := hI.sz
  have hsz := g5.size
  have hne0 : v.ownBlock ≠ some B := fun e => by have := (hlt B e).1; omega
  have hbl : ∀ b, b < Wq.heap.size → v.ownBlock ≠ some b → w7.heap[b]? = Wq.heap[b]? := fun b hb hne => g5.block b hb (fun e => hne e.symm)
  have hbs : ∀ b, b ≠ B → (w7.setCell ⟨B, 1, none⟩ v').heap[b]? = w7.heap[b]? := fun b hb => neq_set w7 _ _ _ b hb
  have hss : (w7.setCell ⟨B, 1, none⟩ v').heap.size = w7.heap.size := by simp
  refine ⟨by rw [List.length_append, hI.len]; rfl, ?_, ?_, ?_, ?_, ?_, ?_, ?_, ?_⟩
  · intro j hj
    rw [getD_snocN, hI.len]
    by_cases e : j = k
    · rw [if_pos e, e, hN]
    · rw [if_neg e]; exact hI.eq j (by omega)
  · exact hO5.same (fun b hb => hbs b (by have := (hO5.block hb).1; omega))
  · intro j hj
    rw [getD_snocN, hI.len]
    by_cases e : j = k
    · rw [if_pos e]
      refine (hO.mono (by omega)).same ?_
      intro b hb
      obtain ⟨h1, h2⟩ := hN' b hb
      rw [hbs b (by omega)]
      exact hbl b h2 (fun e => by have := hlt b e; omega)
    · rw [if_neg e]
      have hj' : j < k := by omega
      refine (hI.cats j hj').same ?_
      intro b hb
      have h1 := hC j hj' b hb
      rw [hbs b (by omega), hbl b (by omega) (hI.ne j hj' b hb), kW.block b h1.2]
  · intro j hj
    rw [getD_snocN, hI.len]
    by_cases e : j = k
    · rw [if_pos e]
      intro b hb e2
      obtain ⟨h1, h2⟩ := hN' b hb
      rcases hv with h | h
      · rw [h] at e2; have := hlt b e2; omega
      · rw [h] at e2; simp only [Option.some.injEq] at e2; omega
    · rw [if_neg e]
      have hj' : j < k := by omega
      intro b hb e2
      have h1 := hC j hj' b hb
      rcases hv with h | h
      · rw [h] at e2; exact hI.ne j hj' b hb e2
      · rw [h] at e2; simp only [Option.some.injEq] at e2; omega
  · exact Keep.setCell (Below.grown (hI.kp.trans kW) g5 (by have := hI.kp.le; omega) (fun b hb => by have := (hlt b hb).1; omega)) (p := ⟨B, 1, none⟩) hB2 _
  · omega
  · have e1 : w7.heap[B]? = some (.cells #[h0, v] 24 (0, 0)) := (hbl B (by omega) hne0).trans ((kW.block B (by omega)).trans hI.bx)
    have := heap_setCell_same w7 B 1 _ 24 v' e1
    simpa using this
  · intro b hb hbB
    rw [hbs b hbB, hbl b (by omega) (fun e => by have := (hlt b e).1; omega), kW.block b (by omega)]
    exact hI.low b hb hbB
set_option maxRecDepth 100000 in
set_option maxHeartbeats 4000000 in
theorem rCanon_ok (a : Option Addr) (cap : Nat) (out : Int) (L : List Nd) (hLn : L.length ≤ 1759218604441) (hcap : L.length ≤ cap) (hE : shE L = 0) (w : World) (hrd : RdN w a L) :
    Calls Try.prog 38 #[.agg #[.int .i64 out, .slice a L.length cap]] w fun e w' => ∃ a' c', e = .returned (.tuple #[.agg #[.int .i64 out, .slice a' (cnoL L).length c'], .int .i64 0]) ∧ (cnoL L).length ≤ c' ∧ CT w' (fun b => w.heap.size ≤ b ∧ b < w'.heap.size) a' c' (cnoL L) ∧ Keep w w' := by
  have hR := shE_rgt hE
  have hL2 : L.length ≤ 2199023255552 := by omega
  obtain ⟨w1, hw1, k1, s1, r0, r1⟩ := boxes2n w #[Value.int .i64 out, Value.slice a L.length cap] #[Value.int .i64 0, Value.slice none 0 0] 24 24
  have hS1 := rShape_any w1 a cap out L hL2 (hrd.keep k1)
  rw [hE] at hS1
  have hOr := fun (wx : World) (k : Keep w wx) => (callsIn_wide (n := 3)).1 (rOrder_in 3 (by omega) wx a cap out L hL2 hE (hrd.keep k))
  have hz0 : w.heap.size < w1.heap.size := (Array.getElem?_eq_some_iff.1 r0).1
  have hz1 : w.heap.size + 1 < w1.heap.size := (Array.getElem?_eq_some_iff.1 r1).1
  obtain ⟨i0, hi, hi0, hi1, hi2⟩ := info_parts i3
  have hpf := ord_full hE
  obtain ⟨p, hp⟩ : ∃ p, ord (shp L) L.length = p := ⟨_, rfl⟩
  rw [hp] at hpf
  have mk := fun (wx : World) => run_make (P := Try.prog) wx 29 3 i0 _ Try.underlying29 hi hi0 .i64 .i64 (p.length : Nat) (p.length : Nat) (by omega) (by omega) (by rw [hi2]; omega) (by omega)
  simp only [hi1, Int.toNat_natCast, Nat.mul_one, made3] at mk
  rw [hp] at hOr
  have hpl : p.length ≤ 1759218604441 := by omega
  replace hpf : Hid _ := hpf
  replace hw1 : Hid _ := hw1
  replace r0 : Hid _ := r0
  replace r1 : Hid _ := r1
  go_enter Try.func38, Try.ntmps38
  go_wp2_with fail
  rw [hw1.out]
  refine hS1.mono ?_
  rintro e w2 ⟨rfl, k2⟩
  have q0 := (k2.block _ hz0).trans r0.out
  have q1 := (k2.block _ hz1).trans r1.out
  have c0 := cell_of_row w2 _ 0 _ 24 (0, 0) q0
  have c1 := cell_of_row w2 _ 1 _ 24 (0, 0) q0
  simp at c0 c1
  have k02 := k1.trans k2
  replace q0 : Hid _ := q0
  replace q1 : Hid _ := q1
  go_wp2_with fail
  refine (hOr _ k02).mono ?_
  rintro e w3 ⟨v3, rfl, o3, b3, k3⟩
  obtain ⟨g, cv, rfl, hcv, hg, hcell⟩ := o3.cells (by rw [hpf.out]; exact hR.1)
  have k03 := k02.trans k3
  have c03 := k3.cell c0
  have c13 := k3.cell c1
  have hz3 : w.heap.size + 1 < w3.heap.size := by have := k2.le; have := k3.le; omega
  clear hS1 hOr o3 b3
  go_wp2_with fail
  have rowA : RowI (w3.alloc (Obj.cells (UI (List.replicate p.length 0)).toArray 3)) w3.heap.size (anF p.length (p.take 0)) := by
    unfold RowI
    rw [heap_alloc_new w3 _]
    simp [anF]
  have kA : Keep w3 (w3.alloc (Obj.cells (UI (List.replicate p.length 0)).toArray 3)) := (Keep.refl w3).alloc _
  have sA : (w3.alloc (Obj.cells (UI (List.replicate p.length 0)).toArray 3)).heap.size = w3.heap.size + 1 := by simp
  generalize w3.alloc (Obj.cells (UI (List.replicate p.length 0)).toArray 3) = w4 at rowA kA sA ⊢
  go_loopw [30] (fun iv wr => ∃ k : Nat, k ≤ p.length ∧ iv = .int .i64 k ∧ RowI wr w3.heap.size (anF p.length (p.take k)) ∧ Keep w3 wr ∧ wr.heap.size = w3.heap.size + 1) (fun iv _ => p.length - (intOf iv).toNat)
  case atStart => exact ⟨0, by omega, rfl, rowA, kA, sA⟩
  case round =>
    obtain ⟨k, hk, rfl, hrow, kw, hs⟩ := hrel
    by_cases hkl : k < p.length
    · have hkc : (k : Int) < (p.length : Int) := by omega
      have hc := kw.cell (hcell k hkl)
      obtain ⟨x, hx⟩ : ∃ x, p.getD k 0 = x := ⟨_, rfl⟩
      have hxl : x < p.length := by rw [hpf.out, ← hx]; exact ord_lt hR.wi _ (by rw [hp]; simp [List.getD, hkl])
      rw [hx] at hc
      have hxc : (x : Int) < (p.length : Int) := by omega
      have y0 := hrow.cell x (by rw [anF_len]; exact hxl)
      have f0 := hrow.frozen x
      have hset := hrow.set x k
      have HS : Hid ((anF p.length (p.take k)).set x k = anF p.length (p.take (k + 1))) := by
        show _ = _
        have e : p.take (k + 1) = p.take k ++ [x] := by
          have e2 : x = p[k] := by rw [← hx]; simp [List.getD, hkl]
          rw [e2]; exact (List.take_append_getElem hkl).symm
        rw [e, anF_snoc]
        simp [Nat.min_eq_left hk]
      clear hx
      go_wp2_with fail
      rw [HS.out] at hset
      exact ⟨⟨k + 1, by omega, by go_num, hset, kw.setCell (p := ⟨w3.heap.size, x, none⟩) (Nat.le_refl _) _, by simpa using hs⟩, by simp [intOf]; omega⟩
    · have hkc : ¬ (k : Int) < (p.length : Int) := by omega
      obtain rfl : k = p.length := by omega
      rw [List.take_length] at hrow
      have d0 := kw.cell c03
      go_wp2_with fail
      have tb : (wr.alloc (Obj.cells #[Value.int IntKind.i64 out, Value.slice none 0 0] 24)).heap[w3.heap.size + 1]? = some (Obj.cells #[Value.int IntKind.i64 out, Value.slice none 0 0] 24 (0, 0)) := by rw [← hs]; exact heap_alloc_new wr _
      have kb : Keep wr (wr.alloc (Obj.cells #[Value.int IntKind.i64 out, Value.slice none 0 0] 24)) := (Keep.refl wr).alloc _
      have sW : (wr.alloc (Obj.cells #[Value.int IntKind.i64 out, Value.slice none 0 0] 24)).heap.size = w3.heap.size + 2 := by simp; omega
      have rowW : RowI (wr.alloc (Obj.cells #[Value.int IntKind.i64 out, Value.slice none 0 0] 24)) w3.heap.size (anF p.length p) := by unfold RowI; rw [kb.block _ (by omega)]; exact hrow
      generalize wr.alloc (Obj.cells #[Value.int IntKind.i64 out, Value.slice none 0 0] 24) = W at tb kb sW rowW ⊢
      have k3W : Keep w3 W := kw.trans kb
      clear kw kb hrow d0 hs
      go_loopw [45] (fun iv wr => ∃ (k : Nat) (v : Value) (K : List (Nd × Option Addr × Nat)), k ≤ p.length ∧ iv = .int .i64 k ∧ NJt (cnoL L) w3 W (w3.heap.size + 1) (.int .i64 out) k v wr K) (fun iv _ => p.length - (intOf iv).toNat)
      case atStart => exact ⟨0, .slice none 0 0, [], by omega, rfl, rfl, fun j hj => by omega, OwnN.nil _ _, fun j hj => by omega, fun j hj => by omega, k3W, Nat.le_refl _, tb, fun b _ _ => rfl⟩
      case round =>
        obtain ⟨k, v, K, hk, rfl, hI⟩ := hrel
        by_cases hkl : k < p.length
        · have hkc : (k : Int) < (p.length : Int) := by omega
          have hc := hI.kp.cell (hcell k hkl)
          have d1 := hI.kp.cell c13
          obtain ⟨x, hx⟩ : ∃ x, p.getD k 0 = x := ⟨_, rfl⟩
          have hxl : x < L.length := by rw [← hx]; exact ord_lt hR.wi _ (by rw [hp]; simp [List.getD, hkl])
          rw [hx] at hc
          obtain ⟨b, o, ca, cp, rfl, hnd⟩ := (hrd.keep (k03.trans hI.kp)) x hxl
          obtain ⟨N, hN⟩ : ∃ N, L.getD x nd0 = N := ⟨_, rfl⟩
          have HN : Hid (L.getD x nd0 = N) := hN
          rw [hN] at hnd
          have rd1 : RdN wr (some ⟨b, o + x * 8, none⟩) [N] := by
            intro j hj
            obtain rfl : j = 0 := by simpa using hj
            exact ⟨b, o + x * 8, ca, cp, rfl, by simpa using hnd⟩
          have hNd := rNodes_any (some ⟨b, o + x * 8, none⟩) (cap - x) [N] wr (by simp) rd1
          simp only [List.length_singleton] at hNd
          have wr1 : IntKind.i64.wrap ((x : Int) + 1) = (x : Int) + 1 := IntWalk.i64_in _ (by omega)
          have hb1 : (x : Int) + 1 ≤ (cap : Int) := by omega
          have hb2 : (0 : Int) ≤ (x : Int) := by omega
          have hb3 : (x : Int) ≤ (x : Int) + 1 := by omega
          have HX : Hid (p.getD k 0 = x) := hx
          clear hx hN
          go_wp2_with fail
          refine hNd.mono ?_
          rintro e w6 ⟨v6, rfl, ⟨K1, h6⟩, k6⟩
          obtain ⟨a6, c6, rfl, hc6, hr6⟩ := h6.own.shape
          have hl6 := h6.len
          rw [hl6] at hc6 hr6 ⊢
          obtain ⟨b6, rfl, hb6⟩ := hr6 0 (by omega)
          have he6 := h6.eq 0 (by omega)
          have hO6 := h6.cats 0 (by omega)
          obtain ⟨r, hr⟩ : ∃ r, K1.getD 0 nt0 = r := ⟨_, rfl⟩
          rw [hr] at hb6 he6 hO6
          obtain ⟨N1, va, cc⟩ := r
          simp only [List.getD_cons_zero] at he6 hO6
          rw [he6] at hb6 hO6
          have d0 := hb6 0 _ (by omega) rfl
          have d1' := hb6 1 _ (by omega) rfl
          have d2 := hb6 2 _ (by omega) rfl
          have d3 := hb6 3 _ (by omega) rfl
          have d4 := hb6 4 _ (by omega) rfl
          have d5 := hb6 5 _ (by omega) rfl
          have d6 := hb6 6 _ (by omega) rfl
          have d7 := hb6 7 _ (by omega) rfl
          simp only [Nat.zero_mul, Nat.zero_add] at d0 d1' d2 d3 d4 d5 d6 d7
          have hzB : w3.heap.size + 1 < wr.heap.size := (Array.getElem?_eq_some_iff.1 hI.bx).1
          have hKl : K.length + 1 ≤ 1759218604441 := by have := hI.len; omega
          have rowr : RowI w6 w3.heap.size (anF p.length p) := by
            unfold RowI
            rw [k6.block _ (by omega), hI.low _ (by omega) (by omega)]
            exact rowW
          have bq := fun ob => ((k6.alloc ob).block _ hzB).trans hI.bx
          have cB := fun ob => cell_of_row _ _ 1 _ 24 (0, 0) (bq ob)
          simp only [List.getElem?_toArray, List.getElem?_cons_zero, List.getElem?_cons_succ] at cB
          obtain ⟨⟨li, hli, hln⟩, ri, hri, hrn⟩ := hR.sides hxl
          rw [HN.out] at hli hri
          have HC : Hid ((cnoL L).getD k nd0 = rnN (anF p.length p) N) := by
            show _ = _
            unfold cnoL
            rw [hp, ← hpf.out, ← HN.out, ← HX.out]
            simp [List.getD, hkl]
          replace bq : Hid _ := bq
          clear hb6 hc6 hr6 h6 hNd rd1 hnd hc d1
          by_cases hkd : N.kd = 1
          · have HU : Hid ((cnoL L).getD k nd0 = N) := by
              show _ = _
              rw [HC.out, hpf.out, ← hp]
              have := rnN_leaf hE hxl (by rw [HN.out]; exact hkd)
              rw [HN.out] at this
              exact this
            have hk1 : ((N.kd : Int) == 1) = true := by simp [hkd]
            have hk2 : ((N.kd : Int) != 1) = false := by simp [hkd]
            replace hkd : Hid _ := hkd
            replace hli : Hid _ := hli
            replace hri : Hid _ := hri
            go_wp2_with (first | (at_builtin; refine wpList_appN W.heap.size _ rfl _ _ rfl K (N, va, cc) v ?_ (hI.own.keep ((k6.alloc _).alloc _)) (Nat.le_trans hI.sz ((k6.alloc _).alloc _).le) ⟨w6.heap.size + 1, 0, none⟩ 1 ?_ (newsN (w6.alloc (Obj.cells #[Value.int IntKind.u8 N.kd, Value.int IntKind.i64 N.vl, Value.int IntKind.i64 N.ft, Value.float FloatKind.f64 N.th, Value.slice va N.cs.length cc, Value.int IntKind.u8 N.ms, Value.int IntKind.i64 N.lf, Value.int IntKind.i64 N.rt] 40)) _ (by simp) N va cc) hKl ?_; rotate_left 2; intro v7 w7 hO7 g7 hv7; obtain ⟨a7, c7, rfl, hc7, -⟩ := hO7.shape; have bx7 : w7.heap[w3.heap.size + 1]? = some (.cells #[.int .i64 out, v] 24 (0, 0)) := (g7.block _ (by simp only [World.size_alloc]; have := k6.le; omega) (fun e => by have := (hI.own.block e.symm).1; omega)).trans ((((k6.alloc _).alloc _).block _ hzB).trans hI.bx); have z1 := cell_of_row _ _ 1 _ 24 (0, 0) bx7; have f1 := frozen_of_row _ _ 1 _ 24 bx7; simp only [List.getElem?_toArray, List.getElem?_cons_zero, List.getElem?_cons_succ] at z1; replace bx7 : Hid _ := bx7))
            · have hJ := hI.step (by omega) (by omega) HU.out ((k6.alloc (Obj.cells #[Value.int IntKind.u8 N.kd, Value.int IntKind.i64 N.vl, Value.int IntKind.i64 N.ft, Value.float FloatKind.f64 N.th, Value.slice va N.cs.length cc, Value.int IntKind.u8 N.ms, Value.int IntKind.i64 N.lf, Value.int IntKind.i64 N.rt] 40)).alloc (Obj.cells #[Value.int IntKind.u8 N.kd, Value.int IntKind.i64 N.vl, Value.int IntKind.i64 N.ft, Value.float FloatKind.f64 N.th, Value.slice va N.cs.length cc, Value.int IntKind.u8 N.ms, Value.int IntKind.i64 N.lf, Value.int IntKind.i64 N.rt] 40)) ((hO6.keep ((Keep.refl w6).alloc _)).keep ((Keep.refl _).alloc _)) hO7 g7 (by simpa using hv7)
              rw [show (K ++ [(N, va, cc)]).length = K.length + 1 by simp] at hJ
              exact ⟨⟨k + 1, _, _, by omega, by go_num, hJ⟩, by simp [intOf]; omega⟩
            all_goals rfl
          · have hk1 : ((N.kd : Int) == 1) = false := by rw [beq_eq_false_iff_ne]; omega
            have hk2 : ((N.kd : Int) != 1) = true := by rw [bne_iff_ne]; omega
            obtain ⟨X, hX⟩ : ∃ X, (anF p.length p).getD li 0 = X := ⟨_, rfl⟩
            obtain ⟨Y, hY⟩ : ∃ Y, (anF p.length p).getD ri 0 = Y := ⟨_, rfl⟩
            have oX := fun ob => ((Keep.refl w6).alloc ob).cell (rowr.cell li (by rw [anF_len, hpf.out]; exact hln))
            have oY := fun ob => ((Keep.refl w6).alloc ob).cell (rowr.cell ri (by rw [anF_len, hpf.out]; exact hrn))
            rw [hX] at oX
            rw [hY] at oY
            have HU : Hid ((cnoL L).getD k nd0 = { N with lf := ((X : Nat) : Int), rt := ((Y : Nat) : Int) }) := by
              show _ = _
              rw [HC.out]
              unfold rnN
              simp only [hli, hri, Int.toNat_natCast, hX, hY]
            rw [hli] at d6
            rw [hri] at d7
            replace hli : Hid _ := hli
            replace hri : Hid _ := hri
            have hlc : (li : Int) < (p.length : Int) := by have := hpf.out; omega
            have hrc : (ri : Int) < (p.length : Int) := by have := hpf.out; omega
            clear hkd hX hY
            go_wp2_with (first | (at_builtin; refine wpList_appN W.heap.size _ rfl _ _ rfl K ({ N with lf := ((X : Nat) : Int), rt := ((Y : Nat) : Int) }, va, cc) v ?_ (hI.own.keep ((k6.alloc _).alloc _)) (Nat.le_trans hI.sz ((k6.alloc _).alloc _).le) ⟨w6.heap.size + 1, 0, none⟩ 1 ?_ (newsN (w6.alloc (Obj.cells #[Value.int IntKind.u8 N.kd, Value.int IntKind.i64 N.vl, Value.int IntKind.i64 N.ft, Value.float FloatKind.f64 N.th, Value.slice va N.cs.length cc, Value.int IntKind.u8 N.ms, Value.int IntKind.i64 (X : Nat), Value.int IntKind.i64 (Y : Nat)] 40)) _ (by simp) { N with lf := ((X : Nat) : Int), rt := ((Y : Nat) : Int) } va cc) hKl ?_; rotate_left 2; intro v7 w7 hO7 g7 hv7; obtain ⟨a7, c7, rfl, hc7, -⟩ := hO7.shape; have bx7 : w7.heap[w3.heap.size + 1]? = some (.cells #[.int .i64 out, v] 24 (0, 0)) := (g7.block _ (by simp only [World.size_alloc]; have := k6.le; omega) (fun e => by have := (hI.own.block e.symm).1; omega)).trans ((((k6.alloc _).alloc _).block _ hzB).trans hI.bx); have z1 := cell_of_row _ _ 1 _ 24 (0, 0) bx7; have f1 := frozen_of_row _ _ 1 _ 24 bx7; simp only [List.getElem?_toArray, List.getElem?_cons_zero, List.getElem?_cons_succ] at z1; replace bx7 : Hid _ := bx7))
            · have hJ := hI.step (by omega) (by omega) HU.out ((k6.alloc (Obj.cells #[Value.int IntKind.u8 N.kd, Value.int IntKind.i64 N.vl, Value.int IntKind.i64 N.ft, Value.float FloatKind.f64 N.th, Value.slice va N.cs.length cc, Value.int IntKind.u8 N.ms, Value.int IntKind.i64 (X : Nat), Value.int IntKind.i64 (Y : Nat)] 40)).alloc (Obj.cells #[Value.int IntKind.u8 N.kd, Value.int IntKind.i64 N.vl, Value.int IntKind.i64 N.ft, Value.float FloatKind.f64 N.th, Value.slice va N.cs.length cc, Value.int IntKind.u8 N.ms, Value.int IntKind.i64 (X : Nat), Value.int IntKind.i64 (Y : Nat)] 40)) ((hO6.keep ((Keep.refl w6).alloc _)).keep ((Keep.refl _).alloc _)) hO7 g7 (by simpa using hv7)
              rw [show (K ++ [(({ N with lf := ((X : Nat) : Int), rt := ((Y : Nat) : Int) } : Nd), va, cc)]).length = K.length + 1 by simp] at hJ
              exact ⟨⟨k + 1, _, _, by omega, by go_num, hJ⟩, by simp [intOf]; omega⟩
            all_goals rfl
        · have hkc : ¬ (k : Int) < (p.length : Int) := by omega
          obtain rfl : k = p.length := by omega
          obtain ⟨an, cn, rfl, hcn, -⟩ := hI.own.shape
          have hcl : (cnoL L).length = p.length := by unfold cnoL; rw [List.length_map, hp]
          have hlK := hI.len
          rw [hlK] at hcn
          have bxo := hI.bx
          rw [hlK] at bxo
          have m1 : wr.heap[w.heap.size + 1]? = some (.cells #[Value.int .i64 0, Value.slice none 0 0] 24 (0, 0)) := (hI.kp.block _ hz3).trans ((k3.block _ (by have := k2.le; omega)).trans q1.out)
          have x0 := cell_of_row wr _ 0 _ 24 (0, 0) bxo
          have x1 := cell_of_row wr _ 1 _ 24 (0, 0) bxo
          have e0 := cell_of_row wr _ 0 _ 24 (0, 0) m1
          have e1 := cell_of_row wr _ 1 _ 24 (0, 0) m1
          have f0 := frozen_of_row wr _ 0 _ 24 m1
          have f1 := frozen_of_row wr _ 1 _ 24 m1
          simp only [List.getElem?_toArray, List.getElem?_cons_zero, List.getElem?_cons_succ] at x0 x1 e0 e1
          replace m1 : Hid _ := m1
          replace bxo : Hid _ := bxo
          rw [hlK] at hI
          replace hlK : Hid _ := hlK
          go_wp2_with fail
          have F2 : ((wr.setCell ⟨w.heap.size + 1, 0, none⟩ (.int .i64 out)).setCell ⟨w.heap.size + 1, 1, none⟩ (.slice an p.length cn)).heap[w.heap.size + 1]? = some (.cells #[.int .i64 out, .slice an p.length cn] 24 (0, 0)) := by
            have a1 := heap_setCell_same _ (w.heap.size + 1) 0 _ 24 (.int .i64 out) m1.out
            have a2 := heap_setCell_same _ (w.heap.size + 1) 1 _ 24 (.slice an p.length cn) a1
            simpa using a2
          have F1 : ∀ g, g ≠ w.heap.size + 1 → ((wr.setCell ⟨w.heap.size + 1, 0, none⟩ (.int .i64 out)).setCell ⟨w.heap.size + 1, 1, none⟩ (.slice an p.length cn)).heap[g]? = wr.heap[g]? := fun g hg => by rw [neq_set _ _ _ _ g hg, neq_set _ _ _ _ g hg]
          try simp only [Exit.inBlock, Exit.then]
          refine bodyPost_ret (results_cell_tmp rfl _ _ (w.heap.size + 1) 24 _ (0, 0) _ rfl F2 Try.underlying24 rfl (by kernel_rfl)) rfl ?_
          refine ⟨an, cn, by first | rfl | (rw [hcl]; rfl), by first | exact hcn | (rw [hcl]; exact hcn), ?_, ?_⟩
          · refine ⟨K, by rw [hcl]; exact hlK.out, fun j hj => hI.eq j (by rw [hcl] at hj; exact hj), ?_, ?_, ?_, ?_⟩
            · rw [hcl]
              exact (hI.own.mono (Nat.zero_le _)).same (fun b hb => F1 b (by have := (hI.own.block hb).1; omega))
            · intro j hj
              rw [hcl] at hj
              exact ((hI.cats j hj).mono (Nat.zero_le _)).same (fun b hb => F1 b (by have := ((hI.cats j hj).block hb).1; omega))
            · intro b hb
              rw [hcl] at hb
              obtain ⟨h1, c, h2⟩ := hI.own.block (b := b) hb
              have := (Array.getElem?_eq_some_iff.1 h2).1
              exact ⟨by omega, by simp; omega⟩
            · intro j hj b hb
              rw [hcl] at hj
              obtain ⟨h1, c, h2⟩ := (hI.cats j hj).block hb
              have := (Array.getElem?_eq_some_iff.1 h2).1
              exact ⟨by omega, by simp; omega⟩
          · exact ((k03.trans hI.kp).setCell (p := ⟨w.heap.size + 1, 0, none⟩) (by show w.heap.size ≤ w.heap.size + 1; omega) _).setCell (p := ⟨w.heap.size + 1, 1, none⟩) (by show w.heap.size ≤ w.heap.size + 1; omega) _
theorem rCanon_any (a : Option Addr) (cap : Nat) (out : Int) (L : List Nd) (hLn : L.length ≤ 1759218604441) (hcap : L.length ≤ cap) (w : World) (hrd : RdN w a L) :
    Calls Try.prog 38 #[.agg #[.int .i64 out, .slice a L.length cap]] w fun e w' => ∃ a' c', e = .returned (.tuple #[.agg #[.int .i64 (cnoO L out), .slice a' (cnoN L).length c'], .int .i64 (shE L)]) ∧ (cnoN L).length ≤ c' ∧ CT w' (fun b => w.heap.size ≤ b ∧ b < w'.heap.size) a' c' (cnoN L) ∧ Keep w w' := by
  by_cases hE : shE L = 0
  · have e1 : cnoO L out = out := by unfold cnoO; rw [if_pos hE]
    have e2 : cnoN L = cnoL L := by unfold cnoN; rw [if_pos hE]
    rw [e1, e2, hE]
    exact rCanon_ok a cap out L hLn hcap hE w hrd
  · have e1 : cnoO L out = 0 := by unfold cnoO; rw [if_neg hE]
    have e2 : cnoN L = [] := by unfold cnoN; rw [if_neg hE]
    rw [e1, e2]
    refine (rCanon_err a cap out L (by omega) hE w hrd).mono ?_
    rintro e w' ⟨rfl, k⟩
    exact ⟨none, 0, rfl, by simp, ⟨[], rfl, fun j hj => by simp at hj, OwnN.nil _ _, fun j hj => by simp at hj, fun b hb => (by cases hb), fun j hj => by simp at hj⟩, k⟩
end Go.Proofs.Ytbchinfmdioijaa
set_option linter.unusedVariables false
set_option linter.unusedSimpArgs false
namespace Go.Proofs.Ytbchinfmdioijaa
open Go.RowKit Go.Shelf
theorem OwnT.mono {B B' : Nat} {w : World} {v : Value} {l : List (Int × Option Addr × Nat × Nat)} (h : OwnT B w v l) (hB : B' ≤ B) : OwnT B' w v l := by
  refine ⟨h.1, ?_⟩
  rcases h.2 with h2 | ⟨g, cap, cur, hv, hg, r⟩
  · exact .inl h2
  · exact .inr ⟨g, cap, cur, hv, Nat.le_trans hB hg, r⟩
set_option maxRecDepth 100000 in
set_option maxHeartbeats 2000000 in
theorem rCopy_own (nm : ByteArray) (fa : Option Addr) (fs : List ByteArray) (cf : Nat) (N : Int) (ba : Option Addr) (base : List Int) (cb : Nat) (ta : Option Addr) (ts : List (Int × List Nd)) (ct : Nat) (w : World)
    (hf : RdS w fa fs) (hfl : fs.length ≤ 8796093022208) (hb : RdI w ba base) (hbl : base.length ≤ 17592186044416) (ht : RdT w ta ts) (htl : ts.length ≤ 4398046511104) (hts : ∀ j, j < ts.length → (ts.getD j (0, [])).2.length ≤ 1759218604441) :
    Calls Try.prog 28 #[ens nm fa fs.length cf N ba base.length cb ta ts.length ct] w fun e w' => ∃ fa' cf' ba' cb' ta' ct', e = .returned (ens nm fa' fs.length cf' N ba' base.length cb' ta' ts.length ct') ∧ RdS w' fa' fs ∧ fs.length ≤ cf' ∧ RdI w' ba' base ∧ base.length ≤ cb' ∧ RdT w' ta' ts ∧ ts.length ≤ ct' ∧ Keep w w' ∧ OwnS w.heap.size w' (.slice fa' fs.length cf') fs ∧ OwnZ 2 w.heap.size w' (.slice ba' base.length cb') base ∧ ∃ K, K.length = ts.length ∧ OwnT w.heap.size w' (.slice ta' ts.length ct') K := by
  unfold ens
  obtain ⟨w1, hw1, k1, s1, r0, r1, r2⟩ := boxes3g w #[Value.string nm, Value.slice fa fs.length cf, Value.int IntKind.i64 N, Value.slice ba base.length cb, Value.slice ta ts.length ct] #[Value.string { data := #[] }, Value.slice none 0 0, Value.int IntKind.i64 0, Value.slice none 0 0, Value.slice none 0 0] #[Value.string nm, Value.slice fa fs.length cf, Value.int IntKind.i64 N, Value.slice ba base.length cb, Value.slice ta ts.length ct] 52 52 52
  have hf1 := hf.keep k1
  replace hw1 : Hid _ := hw1
  replace r0 : Hid _ := r0
  replace r1 : Hid _ := r1
  replace r2 : Hid _ := r2
  go_enter Try.func28, Try.ntmps28
  go_wp2_with (at_builtin; first | (rw [hw1.out]; refine wpList_copyS rfl _ _ rfl fs fa cf ?_ ?_ hf1 hfl ?_; rotate_left 2; intro vf w2 hO2 k2; obtain ⟨fa', cf', rfl, hcf, hrf⟩ := hO2.shape; have q0 := (k2.block _ (by omega)).trans r0.out; have q1 := (k2.block _ (by omega)).trans r1.out; have q2 := (k2.block _ (by omega)).trans r2.out; have fz := frozen_of_row w2 _ 1 _ 52 q2; have e3 := cell_of_row w2 _ 3 _ 52 (0, 0) q0; have e1 := cell_of_row w2 _ 1 _ 52 (0, 0) q2; simp at e3 e1; replace q0 : Hid _ := q0; replace q1 : Hid _ := q1; replace q2 : Hid _ := q2; clear hw1) | (have hq := set_out (i := 1) (u := .slice fa' fs.length cf') (k1.trans k2) (by omega) q0.out q1.out q2.out; refine wpList_copyB rfl _ _ rfl base ba cb ?_ ?_ (hb.keep hq.1) hbl ?_; rotate_left 2; intro vb w4 hO4 k4; obtain ⟨ba', cb', rfl, hcb, hrb⟩ := hO4.shape; have p0 := (k4.block _ (Array.getElem?_eq_some_iff.1 hq.2.1).1).trans hq.2.1; have p1 := (k4.block _ (Array.getElem?_eq_some_iff.1 hq.2.2.1).1).trans hq.2.2.1; have p2 := (k4.block _ (Array.getElem?_eq_some_iff.1 hq.2.2.2).1).trans hq.2.2.2; have fz4 := frozen_of_row w4 _ 3 _ 52 p2; have e4 := cell_of_row w4 _ 4 _ 52 (0, 0) p0; have e5 := cell_of_row w4 _ 3 _ 52 (0, 0) p2; simp at e4 e5; replace p0 : Hid _ := p0; replace p1 : Hid _ := p1; replace p2 : Hid _ := p2; replace hq : Hid _ := hq; clear e3 e1 fz))
  rotate_left 1
  · rfl
  · rfl
  · rfl
  · rfl
  have hq5 := set_out (i := 3) (u := .slice ba' base.length cb') (hq.out.1.trans k4) (by omega) p0.out p1.out p2.out
  have hs2 := k2.le
  have hs4 := k4.le
  rw [World.size_setCell] at hs4
  have hO5 : OwnS (w.heap.size + 3) (w4.setCell ⟨w.heap.size + 1 + 1, 3, none⟩ (.slice ba' base.length cb')) (.slice fa' fs.length cf') fs := by
    rw [s1] at hO2
    have h1 : OwnS (w.heap.size + 3) (w2.setCell ⟨w.heap.size + 1 + 1, 1, none⟩ (.slice fa' fs.length cf')) (.slice fa' fs.length cf') fs := hO2.same (fun b hb => neq_set w2 _ _ _ b (by have := (hO2.block hb).1; omega))
    have h2 := h1.keep k4
    exact h2.same (fun b hb => neq_set w4 _ _ _ b (by have := (h2.block hb).1; omega))
  have hO6 : OwnZ 2 (w.heap.size + 3) (w4.setCell ⟨w.heap.size + 1 + 1, 3, none⟩ (.slice ba' base.length cb')) (.slice ba' base.length cb') base := by
    rw [World.size_setCell] at hO4
    exact (hO4.same (fun b hb => neq_set w4 _ _ _ b (by have := (hO4.block hb).1; omega))).mono (by omega)
  clear hO2 hO4 hrf hrb p0 p1 p2 q0 q1 q2 hq r0 r1 r2 k4 k2 hf1 k1 s1 hs2 hs4 fz4 e4 e5
  generalize w4.setCell ⟨w.heap.size + 1 + 1, 3, none⟩ (.slice ba' base.length cb') = W at *
  obtain ⟨kW, z0, z1, z2⟩ := hq5
  have htW := ht.keep kW
  replace z0 : Hid _ := z0
  replace z1 : Hid _ := z1
  replace z2 : Hid _ := z2
  clear hb hf
  replace ht : Hid _ := ht
  go_loopw [5, 23] (fun v iv wr => ∃ (k : Nat) (K : List (Int × Option Addr × Nat × Nat)), k ≤ ts.length ∧ iv = .int .i64 k ∧ CIt ts W k v wr K) (fun _ iv _ => ts.length - (intOf iv).toNat)
  case atStart => exact ⟨0, [], by omega, rfl, rfl, fun j hj => by omega, OwnT.nil _ _, fun j hj => by omega, Keep.refl W⟩
  case round =>
    obtain ⟨k, K, hk, rfl, hI⟩ := hrel
    by_cases hkl : k < ts.length
    · have hkc : (k : Int) < (ts.length : Int) := by omega
      obtain ⟨b, o, na, nc, rfl, d0, d1, dn, dc, dl, df⟩ := (htW.keep hI.kp) k hkl
      have hln := hts k hkl
      obtain ⟨T, hT⟩ : ∃ T, ts.getD k (0, []) = T := ⟨_, rfl⟩
      have HT : Hid (ts.getD k (0, []) = T) := hT
      rw [hT] at d0 d1 dn dc dl df hln
      clear hT
      obtain ⟨out, L⟩ := T
      simp only at d0 d1 dn dc dl df hln
      have kx : Keep wr (wr.alloc (Obj.cells #[Value.int IntKind.i64 out, Value.slice na L.length nc] 24)) := (Keep.refl wr).alloc _
      have x0 : (wr.alloc (Obj.cells #[Value.int IntKind.i64 out, Value.slice na L.length nc] 24)).drew.cell? ⟨wr.heap.size, 0, none⟩ = some (.int .i64 out) := by
        have := cell_of_row _ _ 0 _ 24 (0, 0) (heap_alloc_new wr (Obj.cells #[Value.int IntKind.i64 out, Value.slice na L.length nc] 24))
        exact this
      have hNd := rNodes_any na nc L (wr.alloc (Obj.cells #[Value.int IntKind.i64 out, Value.slice na L.length nc] 24)).drew hln (dn.keep kx.drew)
      have hKl : K.length + 1 ≤ 4398046511104 := by have := hI.len; omega
      have kd : Keep wr (wr.alloc (Obj.cells #[Value.int IntKind.i64 out, Value.slice na L.length nc] 24)).drew := kx.drew
      go_wp2_with fail
      go_region_law (first
        | (refine step_appT (B := W.heap.size) rfl _ _ rfl K out an L.length cn _ (hI.own.keep (kd.trans k6)) (Nat.le_trans hI.kp.le (kd.trans k6).le) hKl rfl rfl ?_; intro v7 w7 hO7 g7 hv7)
        | (go_simp; go_wp2_with (go_at_call 60; refine hNd.mono ?_; rintro e w6 ⟨vn, rfl, ⟨K6, hN6⟩, k6⟩; obtain ⟨an, cn, rfl, hcn, hC6⟩ := hN6.ct; have x6 := k6.cell x0)))
      all_goals
        have hJ := hI.step HT.out (kd.trans k6) (hC6.same (fun _ _ => rfl) (fun b hb => ⟨by have h1 := hb.1; have h2 := kd.le; omega, hb.2⟩)) hcn hO7 g7 hv7
        clear hO7 g7 hv7 hC6 hN6 hNd x0 x6
        go_simp
        go_wp2_with fail
        go_roundw
        case rel => exact ⟨k + 1, _, by omega, by go_num, hJ⟩
        case measure => simp [intOf]; omega
    · have hkc : ¬ (k : Int) < (ts.length : Int) := by omega
      obtain rfl : k = ts.length := by omega
      obtain ⟨ta', ct', rfl, hct, hrt⟩ := hI.own.shape
      rw [hI.len] at hct ⊢
      have y1 := (hI.kp.block _ (Array.getElem?_eq_some_iff.1 z1.out).1).trans z1.out
      have y2 := (hI.kp.block _ (Array.getElem?_eq_some_iff.1 z2.out).1).trans z2.out
      simp at y2
      have fz := frozen_of_row wr _ 4 _ 52 y2
      have g0 := cell_of_row wr _ 0 _ 52 (0, 0) y2
      have g1 := cell_of_row wr _ 1 _ 52 (0, 0) y2
      have g2 := cell_of_row wr _ 2 _ 52 (0, 0) y2
      have g3 := cell_of_row wr _ 3 _ 52 (0, 0) y2
      have g4 := cell_of_row wr _ 4 _ 52 (0, 0) y2
      simp at g0 g1 g2 g3 g4
      have m0 := cell_of_row wr _ 0 _ 52 (0, 0) y1
      have m1 := cell_of_row wr _ 1 _ 52 (0, 0) y1
      have m2 := cell_of_row wr _ 2 _ 52 (0, 0) y1
      have m3 := cell_of_row wr _ 3 _ 52 (0, 0) y1
      have m4 := cell_of_row wr _ 4 _ 52 (0, 0) y1
      simp at m0 m1 m2 m3 m4
      have n0 := frozen_of_row wr _ 0 _ 52 y1
      have n1 := frozen_of_row wr _ 1 _ 52 y1
      have n2 := frozen_of_row wr _ 2 _ 52 y1
      have n3 := frozen_of_row wr _ 3 _ 52 y1
      have n4 := frozen_of_row wr _ 4 _ 52 y1
      replace y1 : Hid _ := y1
      replace y2 : Hid _ := y2
      go_wp2_with fail
      obtain ⟨F2, F1⟩ := fin_store wr w.heap.size (.slice ta' ts.length ct') (.string nm) (.slice fa' fs.length cf') (.int .i64 N) (.slice ba' base.length cb') (.slice ta' ts.length ct') _ _ _ _ _ y1.out
      have kf : Keep w _ := ((((((kW.trans hI.kp).setCell (p := ⟨w.heap.size + 1 + 1, 4, none⟩) (by show _ ≤ w.heap.size + 1 + 1; omega) (.slice ta' ts.length ct')).setCell (p := ⟨w.heap.size + 1, 0, none⟩) (by show _ ≤ w.heap.size + 1; omega) (.string nm)).setCell (p := ⟨w.heap.size + 1, 1, none⟩) (by show _ ≤ w.heap.size + 1; omega) (.slice fa' fs.length cf')).setCell (p := ⟨w.heap.size + 1, 2, none⟩) (by show _ ≤ w.heap.size + 1; omega) (.int .i64 N)).setCell (p := ⟨w.heap.size + 1, 3, none⟩) (by show _ ≤ w.heap.size + 1; omega) (.slice ba' base.length cb')).setCell (p := ⟨w.heap.size + 1, 4, none⟩) (by show _ ≤ w.heap.size + 1; omega) (.slice ta' ts.length ct')
      have hWs := (Array.getElem?_eq_some_iff.1 z2.out).1
      clear fz g0 g1 g2 g3 g4 m0 m1 m2 m3 m4 n0 n1 n2 n3 n4 y1 y2
      try simp only [Exit.inBlock, Exit.then]
      refine bodyPost_ret (results_cell_row rfl _ _ (w.heap.size + 1) 52 _ (0, 0) _ rfl F2 Try.underlying52 rfl (by kernel_rfl)) rfl ?_
      have o5 := (hO5.keep hI.kp)
      have o5 := o5.same (fun b hb => F1 b (by have := (o5.block hb).1; omega) (by have := (o5.block hb).1; omega))
      have o6 := (hO6.keep hI.kp)
      have o6 := o6.same (fun b hb => F1 b (by have := (o6.block hb).1; omega) (by have := (o6.block hb).1; omega))
      obtain ⟨f1, f2, ef, hf1, hf2⟩ := o5.shape
      obtain ⟨b1, b2, eb, hb1, hb2⟩ := o6.shape
      simp only [Value.slice.injEq] at ef eb
      obtain ⟨rfl, -, rfl⟩ := ef
      obtain ⟨rfl, -, rfl⟩ := eb
      have hI' : CIt ts W ts.length (.slice ta' ts.length ct') wr K := by have h := hI; rw [hI.len] at h; exact h
      have oT := hI'.own.same (fun b hb => F1 b (by have := (hI'.own.block hb).1; omega) (by have := (hI'.own.block hb).1; omega))
      have oT' := OwnT.mono oT (B' := w.heap.size) (by omega)
      have o5' := OwnS.mono o5 (B' := w.heap.size) (by omega)
      have o6' := o6.mono (B' := w.heap.size) (by omega)
      exact ⟨_, _, _, _, _, _, rfl, hf2, hf1, hb2, hb1, hI'.rdT (fun b hb => F1 b (by omega) (by omega)) ht.out, hct, kf, o5', o6', K, hI'.len, oT'⟩
theorem UT_set : ∀ (K : List (Int × Option Addr × Nat × Nat)) (k : Nat) (o : Int) (a : Option Addr) (n c : Nat), k < K.length → UT (K.set k (o, a, n, c)) = ((UT K).set (k * 2) (.int .i64 o)).set (k * 2 + 1) (.slice a n c)
  | [], k, o, a, n, c, h => by simp at h
  | r :: K, 0, o, a, n, c, _ => by simp [UT]
  | r :: K, k + 1, o, a, n, c, h => by
    have ih := UT_set K k o a n c (by simpa using h)
    rw [show (k + 1) * 2 = (k * 2) + 1 + 1 by omega, show k * 2 + 1 + 1 + 1 = (k * 2 + 1) + 1 + 1 by omega]
    simp only [List.set_cons_succ, UT]
    rw [ih]
theorem OwnT.set {B : Nat} {w : World} {g m c : Nat} {K : List (Int × Option Addr × Nat × Nat)} (h : OwnT B w (.slice (some ⟨g, 0, none⟩) m c) K) {k : Nat} (hk : k < K.length) (o : Int) (a : Option Addr) (n c' : Nat) :
    OwnT B ((w.setCell ⟨g, k * 2, none⟩ (.int .i64 o)).setCell ⟨g, k * 2 + 1, none⟩ (.slice a n c')) (.slice (some ⟨g, 0, none⟩) m c) (K.set k (o, a, n, c')) ∧ (∃ cur, w.heap[g]? = some (.cells cur 24 (0, 0)) ∧ K.length * 2 ≤ cur.size) := by
  obtain ⟨h1, h2⟩ := h
  rcases h2 with ⟨h2, -⟩ | ⟨g', cap, cur, hv, hg, hh, r1, r2, r3, r4⟩
  · cases h2
  · simp only [Value.slice.injEq, Option.some.injEq, Addr.mk.injEq, and_true] at hv
    obtain ⟨rfl, rfl, rfl⟩ := hv
    have a1 := heap_setCell_same w g (k * 2) _ 24 (.int .i64 o) hh
    have a2 := heap_setCell_same _ g (k * 2 + 1) _ 24 (.slice a n c') a1
    refine ⟨⟨?_, .inr ⟨g, c, _, by rw [List.length_set], hg, a2, by rw [List.length_set]; exact r1, r2, by simp [r3], ?_⟩⟩, cur, hh, by omega⟩
    · rw [UT_set K k o a n c' hk]; simp only [List.length_set]; exact h1
    · rw [UT_set K k o a n c' hk, List.length_set, ← r4]
      simp only [Array.set!_eq_setIfInBounds, Array.toList_setIfInBounds]
      rw [List.take_set, List.take_set]
end Go.Proofs.Ytbchinfmdioijaa
set_option linter.unusedVariables false
set_option linter.unusedSimpArgs false
namespace Go.Proofs.Ytbchinfmdioijaa
open Go.RowKit Go.Shelf
set_option maxRecDepth 100000 in
set_option maxHeartbeats 2000000 in
theorem rCopy_sep (nm : ByteArray) (fa : Option Addr) (fs : List ByteArray) (cf : Nat) (N : Int) (ba : Option Addr) (base : List Int) (cb : Nat) (ta : Option Addr) (ts : List (Int × List Nd)) (ct : Nat) (w : World)
    (hf : RdS w fa fs) (hfl : fs.length ≤ 8796093022208) (hb : RdI w ba base) (hbl : base.length ≤ 17592186044416) (ht : RdT w ta ts) (htl : ts.length ≤ 4398046511104) (hts : ∀ j, j < ts.length → (ts.getD j (0, [])).2.length ≤ 1759218604441) :
    Calls Try.prog 28 #[ens nm fa fs.length cf N ba base.length cb ta ts.length ct] w fun e w' => ∃ fa' cf' ba' cb' ta' ct', e = .returned (ens nm fa' fs.length cf' N ba' base.length cb' ta' ts.length ct') ∧ RdS w' fa' fs ∧ fs.length ≤ cf' ∧ RdI w' ba' base ∧ base.length ≤ cb' ∧ RdT w' ta' ts ∧ ts.length ≤ ct' ∧ Keep w w' ∧ OwnS w.heap.size w' (.slice fa' fs.length cf') fs ∧ OwnZ 2 w.heap.size w' (.slice ba' base.length cb') base ∧ (∀ b, (Value.slice ba' base.length cb').ownBlock = some b → (Value.slice ta' ts.length ct').ownBlock ≠ some b) ∧ ∃ K, K.length = ts.length ∧ OwnT w.heap.size w' (.slice ta' ts.length ct') K ∧ (∀ j, j < ts.length → (K.getD j tt0).1 = (ts.getD j (0, [])).1 ∧ (K.getD j tt0).2.2.1 = (ts.getD j (0, [])).2.length ∧ (ts.getD j (0, [])).2.length ≤ (K.getD j tt0).2.2.2) ∧ ∀ j, j < ts.length → CT w' (fun b => w.heap.size ≤ b ∧ b < w'.heap.size ∧ (Value.slice ta' ts.length ct').ownBlock ≠ some b) (K.getD j tt0).2.1 (K.getD j tt0).2.2.2 (ts.getD j (0, [])).2 := by
  unfold ens
  obtain ⟨w1, hw1, k1, s1, r0, r1, r2⟩ := boxes3g w #[Value.string nm, Value.slice fa fs.length cf, Value.int IntKind.i64 N, Value.slice ba base.length cb, Value.slice ta ts.length ct] #[Value.string { data := #[] }, Value.slice none 0 0, Value.int IntKind.i64 0, Value.slice none 0 0, Value.slice none 0 0] #[Value.string nm, Value.slice fa fs.length cf, Value.int IntKind.i64 N, Value.slice ba base.length cb, Value.slice ta ts.length ct] 52 52 52
  have hf1 := hf.keep k1
  replace hw1 : Hid _ := hw1
  replace r0 : Hid _ := r0
  replace r1 : Hid _ := r1
  replace r2 : Hid _ := r2
  go_enter Try.func28, Try.ntmps28
  go_wp2_with (at_builtin; first | (rw [hw1.out]; refine wpList_copyS rfl _ _ rfl fs fa cf ?_ ?_ hf1 hfl ?_; rotate_left 2; intro vf w2 hO2 k2; obtain ⟨fa', cf', rfl, hcf, hrf⟩ := hO2.shape; have q0 := (k2.block _ (by omega)).trans r0.out; have q1 := (k2.block _ (by omega)).trans r1.out; have q2 := (k2.block _ (by omega)).trans r2.out; have fz := frozen_of_row w2 _ 1 _ 52 q2; have e3 := cell_of_row w2 _ 3 _ 52 (0, 0) q0; have e1 := cell_of_row w2 _ 1 _ 52 (0, 0) q2; simp at e3 e1; replace q0 : Hid _ := q0; replace q1 : Hid _ := q1; replace q2 : Hid _ := q2; clear hw1) | (have hq := set_out (i := 1) (u := .slice fa' fs.length cf') (k1.trans k2) (by omega) q0.out q1.out q2.out; refine wpList_copyB rfl _ _ rfl base ba cb ?_ ?_ (hb.keep hq.1) hbl ?_; rotate_left 2; intro vb w4 hO4 k4; obtain ⟨ba', cb', rfl, hcb, hrb⟩ := hO4.shape; have p0 := (k4.block _ (Array.getElem?_eq_some_iff.1 hq.2.1).1).trans hq.2.1; have p1 := (k4.block _ (Array.getElem?_eq_some_iff.1 hq.2.2.1).1).trans hq.2.2.1; have p2 := (k4.block _ (Array.getElem?_eq_some_iff.1 hq.2.2.2).1).trans hq.2.2.2; have fz4 := frozen_of_row w4 _ 3 _ 52 p2; have e4 := cell_of_row w4 _ 4 _ 52 (0, 0) p0; have e5 := cell_of_row w4 _ 3 _ 52 (0, 0) p2; simp at e4 e5; replace p0 : Hid _ := p0; replace p1 : Hid _ := p1; replace p2 : Hid _ := p2; replace hq : Hid _ := hq; clear e3 e1 fz))
  rotate_left 1
  · rfl
  · rfl
  · rfl
  · rfl
  have hq5 := set_out (i := 3) (u := .slice ba' base.length cb') (hq.out.1.trans k4) (by omega) p0.out p1.out p2.out
  have hs2 := k2.le
  have hs4 := k4.le
  rw [World.size_setCell] at hs4
  have hO5 : OwnS (w.heap.size + 3) (w4.setCell ⟨w.heap.size + 1 + 1, 3, none⟩ (.slice ba' base.length cb')) (.slice fa' fs.length cf') fs := by
    rw [s1] at hO2
    have h1 : OwnS (w.heap.size + 3) (w2.setCell ⟨w.heap.size + 1 + 1, 1, none⟩ (.slice fa' fs.length cf')) (.slice fa' fs.length cf') fs := hO2.same (fun b hb => neq_set w2 _ _ _ b (by have := (hO2.block hb).1; omega))
    have h2 := h1.keep k4
    exact h2.same (fun b hb => neq_set w4 _ _ _ b (by have := (h2.block hb).1; omega))
  have hO6 : OwnZ 2 (w.heap.size + 3) (w4.setCell ⟨w.heap.size + 1 + 1, 3, none⟩ (.slice ba' base.length cb')) (.slice ba' base.length cb') base := by
    rw [World.size_setCell] at hO4
    exact (hO4.same (fun b hb => neq_set w4 _ _ _ b (by have := (hO4.block hb).1; omega))).mono (by omega)
  clear hO2 hO4 hrf hrb p0 p1 p2 q0 q1 q2 hq r0 r1 r2 k4 k2 hf1 k1 s1 hs2 hs4 fz4 e4 e5
  generalize w4.setCell ⟨w.heap.size + 1 + 1, 3, none⟩ (.slice ba' base.length cb') = W at *
  obtain ⟨kW, z0, z1, z2⟩ := hq5
  have htW := ht.keep kW
  replace z0 : Hid _ := z0
  replace z1 : Hid _ := z1
  replace z2 : Hid _ := z2
  clear hb hf
  replace ht : Hid _ := ht
  go_loopw [5, 23] (fun v iv wr => ∃ (k : Nat) (K : List (Int × Option Addr × Nat × Nat)), k ≤ ts.length ∧ iv = .int .i64 k ∧ CIt ts W k v wr K) (fun _ iv _ => ts.length - (intOf iv).toNat)
  case atStart => exact ⟨0, [], by omega, rfl, rfl, fun j hj => by omega, OwnT.nil _ _, fun j hj => by omega, Keep.refl W⟩
  case round =>
    obtain ⟨k, K, hk, rfl, hI⟩ := hrel
    by_cases hkl : k < ts.length
    · have hkc : (k : Int) < (ts.length : Int) := by omega
      obtain ⟨b, o, na, nc, rfl, d0, d1, dn, dc, dl, df⟩ := (htW.keep hI.kp) k hkl
      have hln := hts k hkl
      obtain ⟨T, hT⟩ : ∃ T, ts.getD k (0, []) = T := ⟨_, rfl⟩
      have HT : Hid (ts.getD k (0, []) = T) := hT
      rw [hT] at d0 d1 dn dc dl df hln
      clear hT
      obtain ⟨out, L⟩ := T
      simp only at d0 d1 dn dc dl df hln
      have kx : Keep wr (wr.alloc (Obj.cells #[Value.int IntKind.i64 out, Value.slice na L.length nc] 24)) := (Keep.refl wr).alloc _
      have x0 : (wr.alloc (Obj.cells #[Value.int IntKind.i64 out, Value.slice na L.length nc] 24)).drew.cell? ⟨wr.heap.size, 0, none⟩ = some (.int .i64 out) := by
        have := cell_of_row _ _ 0 _ 24 (0, 0) (heap_alloc_new wr (Obj.cells #[Value.int IntKind.i64 out, Value.slice na L.length nc] 24))
        exact this
      have hNd := rNodes_any na nc L (wr.alloc (Obj.cells #[Value.int IntKind.i64 out, Value.slice na L.length nc] 24)).drew hln (dn.keep kx.drew)
      have hKl : K.length + 1 ≤ 4398046511104 := by have := hI.len; omega
      have kd : Keep wr (wr.alloc (Obj.cells #[Value.int IntKind.i64 out, Value.slice na L.length nc] 24)).drew := kx.drew
      go_wp2_with fail
      go_region_law (first
        | (refine step_appT (B := W.heap.size) rfl _ _ rfl K out an L.length cn _ (hI.own.keep (kd.trans k6)) (Nat.le_trans hI.kp.le (kd.trans k6).le) hKl rfl rfl ?_; intro v7 w7 hO7 g7 hv7)
        | (go_simp; go_wp2_with (go_at_call 60; refine hNd.mono ?_; rintro e w6 ⟨vn, rfl, ⟨K6, hN6⟩, k6⟩; obtain ⟨an, cn, rfl, hcn, hC6⟩ := hN6.ct; have x6 := k6.cell x0)))
      all_goals
        have hJ := hI.step HT.out (kd.trans k6) (hC6.same (fun _ _ => rfl) (fun b hb => ⟨by have h1 := hb.1; have h2 := kd.le; omega, hb.2⟩)) hcn hO7 g7 hv7
        clear hO7 g7 hv7 hC6 hN6 hNd x0 x6
        go_simp
        go_wp2_with fail
        go_roundw
        case rel => exact ⟨k + 1, _, by omega, by go_num, hJ⟩
        case measure => simp [intOf]; omega
    · have hkc : ¬ (k : Int) < (ts.length : Int) := by omega
      obtain rfl : k = ts.length := by omega
      obtain ⟨ta', ct', rfl, hct, hrt⟩ := hI.own.shape
      rw [hI.len] at hct ⊢
      have y1 := (hI.kp.block _ (Array.getElem?_eq_some_iff.1 z1.out).1).trans z1.out
      have y2 := (hI.kp.block _ (Array.getElem?_eq_some_iff.1 z2.out).1).trans z2.out
      simp at y2
      have fz := frozen_of_row wr _ 4 _ 52 y2
      have g0 := cell_of_row wr _ 0 _ 52 (0, 0) y2
      have g1 := cell_of_row wr _ 1 _ 52 (0, 0) y2
      have g2 := cell_of_row wr _ 2 _ 52 (0, 0) y2
      have g3 := cell_of_row wr _ 3 _ 52 (0, 0) y2
      have g4 := cell_of_row wr _ 4 _ 52 (0, 0) y2
      simp at g0 g1 g2 g3 g4
      have m0 := cell_of_row wr _ 0 _ 52 (0, 0) y1
      have m1 := cell_of_row wr _ 1 _ 52 (0, 0) y1
      have m2 := cell_of_row wr _ 2 _ 52 (0, 0) y1
      have m3 := cell_of_row wr _ 3 _ 52 (0, 0) y1
      have m4 := cell_of_row wr _ 4 _ 52 (0, 0) y1
      simp at m0 m1 m2 m3 m4
      have n0 := frozen_of_row wr _ 0 _ 52 y1
      have n1 := frozen_of_row wr _ 1 _ 52 y1
      have n2 := frozen_of_row wr _ 2 _ 52 y1
      have n3 := frozen_of_row wr _ 3 _ 52 y1
      have n4 := frozen_of_row wr _ 4 _ 52 y1
      replace y1 : Hid _ := y1
      replace y2 : Hid _ := y2
      go_wp2_with fail
      obtain ⟨F2, F1⟩ := fin_store wr w.heap.size (.slice ta' ts.length ct') (.string nm) (.slice fa' fs.length cf') (.int .i64 N) (.slice ba' base.length cb') (.slice ta' ts.length ct') _ _ _ _ _ y1.out
      have kf : Keep w _ := ((((((kW.trans hI.kp).setCell (p := ⟨w.heap.size + 1 + 1, 4, none⟩) (by show _ ≤ w.heap.size + 1 + 1; omega) (.slice ta' ts.length ct')).setCell (p := ⟨w.heap.size + 1, 0, none⟩) (by show _ ≤ w.heap.size + 1; omega) (.string nm)).setCell (p := ⟨w.heap.size + 1, 1, none⟩) (by show _ ≤ w.heap.size + 1; omega) (.slice fa' fs.length cf')).setCell (p := ⟨w.heap.size + 1, 2, none⟩) (by show _ ≤ w.heap.size + 1; omega) (.int .i64 N)).setCell (p := ⟨w.heap.size + 1, 3, none⟩) (by show _ ≤ w.heap.size + 1; omega) (.slice ba' base.length cb')).setCell (p := ⟨w.heap.size + 1, 4, none⟩) (by show _ ≤ w.heap.size + 1; omega) (.slice ta' ts.length ct')
      have hWs := (Array.getElem?_eq_some_iff.1 z2.out).1
      clear fz g0 g1 g2 g3 g4 m0 m1 m2 m3 m4 n0 n1 n2 n3 n4 y1 y2
      try simp only [Exit.inBlock, Exit.then]
      refine bodyPost_ret (results_cell_row rfl _ _ (w.heap.size + 1) 52 _ (0, 0) _ rfl F2 Try.underlying52 rfl (by kernel_rfl)) rfl ?_
      have o5 := (hO5.keep hI.kp)
      have o5 := o5.same (fun b hb => F1 b (by have := (o5.block hb).1; omega) (by have := (o5.block hb).1; omega))
      have o6 := (hO6.keep hI.kp)
      have o6 := o6.same (fun b hb => F1 b (by have := (o6.block hb).1; omega) (by have := (o6.block hb).1; omega))
      obtain ⟨f1, f2, ef, hf1, hf2⟩ := o5.shape
      obtain ⟨b1, b2, eb, hb1, hb2⟩ := o6.shape
      simp only [Value.slice.injEq] at ef eb
      obtain ⟨rfl, -, rfl⟩ := ef
      obtain ⟨rfl, -, rfl⟩ := eb
      have hI' : CIt ts W ts.length (.slice ta' ts.length ct') wr K := by have h := hI; rw [hI.len] at h; exact h
      have oT := hI'.own.same (fun b hb => F1 b (by have := (hI'.own.block hb).1; omega) (by have := (hI'.own.block hb).1; omega))
      have oT' := OwnT.mono oT (B' := w.heap.size) (by omega)
      have o5' := OwnS.mono o5 (B' := w.heap.size) (by omega)
      have o6' := o6.mono (B' := w.heap.size) (by omega)
      refine ⟨_, _, _, _, _, _, rfl, hf2, hf1, hb2, hb1, hI'.rdT (fun b hb => F1 b (by omega) (by omega)) ht.out, hct, kf, o5', o6', ?_, K, hI'.len, oT', hI'.eq, ?_⟩
      · intro b hb hb2
        have h1 := (hI'.own.block hb2).1
        have h2 := (hO6.block hb).2
        obtain ⟨cur, h2⟩ := h2
        have h3 := (Array.getElem?_eq_some_iff.1 h2).1
        omega
      · intro j hj
        refine (hI'.ct j hj).same (fun b hb => F1 b (by omega) (by omega)) (fun b hb => ⟨by omega, ?_, hb.2.2⟩)
        simp only [World.size_setCell]
        exact hb.2.1
end Go.Proofs.Ytbchinfmdioijaa
set_option linter.unusedVariables false
set_option linter.unusedSimpArgs false
namespace Go.Proofs.Ytbchinfmdioijaa
open Go.RowKit Go.Shelf
/-- A tree of a copy (its two cells) and what it is. -/
abbrev TZ := (Int × Option Addr × Nat × Nat) × (Int × List Nd)
def tz0 : TZ := (tt0, (0, []))
structure Gd (W : World) (S : Nat → Prop) (z : TZ) : Prop where
  e1 : z.1.1 = z.2.1
  e2 : z.1.2.2.1 = z.2.2.length
  e3 : z.2.2.length ≤ z.1.2.2.2
  ct : CT W S z.1.2.1 z.1.2.2.2 z.2.2
  rd : RdN W z.1.2.1 z.2.2
  ln : z.2.2.length ≤ 2199023255552
  bd : -9223372036854775808 ≤ z.2.1 ∧ z.2.1 ≤ 9223372036854775807
/-- What holds between two rounds: the sums so far, the copy's trees in some order, all else as it was. -/
structure SI (w W : World) (vw vT : Value) (Z0 : List TZ) (l : List Int) (Z : List TZ) (wr : World) : Prop where
  pm : Z.Perm Z0
  wz : OwnZ 2 w.heap.size wr vw l
  tz : OwnT w.heap.size wr vT (Z.map Prod.fst)
  ot : ∀ b, b < W.heap.size → vw.ownBlock ≠ some b → vT.ownBlock ≠ some b → wr.heap[b]? = W.heap[b]?
  sz : W.heap.size ≤ wr.heap.size
  kp : Keep w wr
theorem SI.keep {w W : World} {vw vT : Value} {Z0 Z : List TZ} {l : List Int} {wr w' : World} (h : SI w W vw vT Z0 l Z wr) (k : Keep wr w') : SI w W vw vT Z0 l Z w' :=
  ⟨h.pm, h.wz.keep k, h.tz.keep k, fun b hb h1 h2 => (k.block b (Nat.lt_of_lt_of_le hb h.sz)).trans (h.ot b hb h1 h2), Nat.le_trans h.sz k.le, h.kp.trans k⟩
theorem SI.add {w W : World} {gw cw n : Nat} {vT : Value} {Z0 Z : List TZ} {l : List Int} {wr : World} (h : SI w W (.slice (some ⟨gw, 0, none⟩) n cw) vT Z0 l Z wr) (hn : l.length = n) (hd : vT.ownBlock ≠ some gw) {j : Nat} (hj : j < n) (x : Int) :
    SI w W (.slice (some ⟨gw, 0, none⟩) n cw) vT Z0 (l.set j x) Z (wr.setCell ⟨gw, j, none⟩ (.int .i64 x)) ∧ wr.frozen? ⟨gw, j, none⟩ = false ∧ wr.cell? ⟨gw, j, none⟩ = some (.int .i64 (l.getD j 0)) := by
  subst hn
  obtain ⟨h1, h2⟩ := h.wz.set j hj x
  have hg := (h.wz.block (b := gw) rfl).1
  obtain ⟨a, c, e, -, hr⟩ := h.wz.shape
  simp only [Value.slice.injEq] at e
  obtain ⟨rfl, -, rfl⟩ := e
  obtain ⟨b, o, e, hc⟩ := hr j hj
  simp only [Option.some.injEq, Addr.mk.injEq, and_true] at e
  obtain ⟨rfl, rfl⟩ := e
  rw [Nat.zero_add] at hc
  refine ⟨⟨h.pm, h1, h.tz.same (fun b hb => neq_set wr _ _ _ b (fun e => hd (e ▸ hb))), fun b hb n1 n2 => (neq_set wr gw j _ b (fun e => n1 (by rw [e]; rfl))).trans (h.ot b hb n1 n2), ?_, h.kp.setCell hg _⟩, h2, hc⟩
  rw [World.size_setCell]
  exact h.sz
theorem SI.cell {w W : World} {vw vT : Value} {Z0 Z : List TZ} {l : List Int} {wr : World} (h : SI w W vw vT Z0 l Z wr) {p : Addr} {v : Value} (hp : p.block < W.heap.size) (n1 : vw.ownBlock ≠ some p.block) (n2 : vT.ownBlock ≠ some p.block) (hc : W.cell? p = some v) : wr.cell? p = some v :=
  (World.cell?_of_block (w := W) (h.ot p.block hp n1 n2)).trans hc
theorem map_getD (Z : List TZ) (j : Nat) : (Z.map Prod.fst).getD j tt0 = (Z.getD j tz0).1 := by
  by_cases h : j < Z.length
  · simp [List.getD, h]
  · simp [List.getD, h, tz0]
theorem map_getD2 (Z : List TZ) (j : Nat) : (Z.map Prod.snd).getD j (0, []) = (Z.getD j tz0).2 := by
  by_cases h : j < Z.length
  · simp [List.getD, h]
  · simp [List.getD, h, tz0]
/-- The world behind an exchange of two trees. -/
def swW (wr : World) (g i q : Nat) (a b : Int × Option Addr × Nat × Nat) : World :=
  (((wr.setCell ⟨g, i * 2, none⟩ (.int .i64 b.1)).setCell ⟨g, i * 2 + 1, none⟩ (.slice b.2.1 b.2.2.1 b.2.2.2)).setCell ⟨g, q * 2, none⟩ (.int .i64 a.1)).setCell ⟨g, q * 2 + 1, none⟩ (.slice a.2.1 a.2.2.1 a.2.2.2)
theorem SI.swap {w W : World} {g n ct : Nat} {vw : Value} {Z0 Z : List TZ} {l : List Int} {wr : World} (h : SI w W vw (.slice (some ⟨g, 0, none⟩) n ct) Z0 l Z wr) (hd : vw.ownBlock ≠ some g) {i q : Nat} (hi : i < Z.length) (hq : q < Z.length) :
    SI w W vw (.slice (some ⟨g, 0, none⟩) n ct) Z0 l ((Z.set i (Z.getD q tz0)).set q (Z.getD i tz0)) (swW wr g i q (Z.getD i tz0).1 (Z.getD q tz0).1) := by
  have hg := (h.tz.block (b := g) rfl).1
  have t1 := (h.tz.set (k := i) (by simpa using hi) (Z.getD q tz0).1.1 (Z.getD q tz0).1.2.1 (Z.getD q tz0).1.2.2.1 (Z.getD q tz0).1.2.2.2).1
  have t2 := (t1.set (k := q) (by simpa using hq) (Z.getD i tz0).1.1 (Z.getD i tz0).1.2.1 (Z.getD i tz0).1.2.2.1 (Z.getD i tz0).1.2.2.2).1
  have hb : ∀ b, b ≠ g → (swW wr g i q (Z.getD i tz0).1 (Z.getD q tz0).1).heap[b]? = wr.heap[b]? := by
    intro b hb
    unfold swW
    rw [neq_set _ _ _ _ b hb, neq_set _ _ _ _ b hb, neq_set _ _ _ _ b hb, neq_set _ _ _ _ b hb]
  have em : ((Z.set i (Z.getD q tz0)).set q (Z.getD i tz0)).map Prod.fst = ((Z.map Prod.fst).set i ((Z.getD q tz0).1.1, (Z.getD q tz0).1.2.1, (Z.getD q tz0).1.2.2.1, (Z.getD q tz0).1.2.2.2)).set q ((Z.getD i tz0).1.1, (Z.getD i tz0).1.2.1, (Z.getD i tz0).1.2.2.1, (Z.getD i tz0).1.2.2.2) := by
    simp [List.map_set]
  refine ⟨?_, h.wz.same (fun b e => hb b (fun e2 => hd (e2 ▸ e))), ?_, fun b h1 n1 n2 => (hb b (fun e => n2 (by rw [e]; rfl))).trans (h.ot b h1 n1 n2), ?_, ?_⟩
  · have e1 : Z.getD q tz0 = Z[q] := by simp [List.getD, hq]
    have e2 : Z.getD i tz0 = Z[i] := by simp [List.getD, hi]
    rw [e1, e2]
    exact (List.set_set_perm hi hq).trans h.pm
  · rw [em]; exact t2
  · unfold swW
    simp only [World.size_setCell]
    exact h.sz
  · unfold swW
    exact (((h.kp.setCell hg _).setCell hg _).setCell hg _).setCell hg _
/-- The copy's trees can be read. -/
theorem SI.rdT {w W : World} {vw : Value} {ta : Option Addr} {n ct : Nat} {Z0 Z : List TZ} {l : List Int} {wr : World} (h : SI w W vw (.slice ta n ct) Z0 l Z wr) {S : Nat → Prop} (hS : ∀ b, S b → b < W.heap.size ∧ vw.ownBlock ≠ some b ∧ (Value.slice ta n ct).ownBlock ≠ some b) (hG : ∀ z ∈ Z0, Gd W S z) : RdT wr ta (Z.map Prod.snd) := by
  obtain ⟨a, c, e, hc, hr⟩ := h.tz.shape
  simp only [Value.slice.injEq] at e
  obtain ⟨rfl, -, rfl⟩ := e
  intro j hj
  rw [List.length_map] at hj
  have hz : Z.getD j tz0 ∈ Z0 := by
    rw [← h.pm.mem_iff]
    have : Z.getD j tz0 = Z[j] := by simp [List.getD, hj]
    rw [this]
    exact List.getElem_mem _
  have g := hG _ hz
  obtain ⟨b, rfl, hu⟩ := hr j (by simpa using hj)
  rw [map_getD] at hu
  rw [map_getD2]
  generalize Z.getD j tz0 = z at *
  have u0 := hu 0 _ (by omega) rfl
  have u1 := hu 1 _ (by omega) rfl
  have hct := g.ct.same (w' := wr) (S' := S) (fun b hb => h.ot b (hS b hb).1 (hS b hb).2.1 (hS b hb).2.2) (fun _ h => h)
  refine ⟨b, 0, z.1.2.1, z.1.2.2.2, rfl, ?_, ?_, hct.rdN g.rd, g.e3, g.ln, g.bd⟩
  · rw [Nat.zero_add, ← g.e1]; exact u0
  · rw [Nat.zero_add, ← g.e2]; exact u1
theorem SI.cells {w W : World} {vw : Value} {g n ct : Nat} {Z0 Z : List TZ} {l : List Int} {wr : World} (h : SI w W vw (.slice (some ⟨g, 0, none⟩) n ct) Z0 l Z wr) {j : Nat} (hj : j < Z.length) :
    wr.cell? ⟨g, j * 2, none⟩ = some (.int .i64 (Z.getD j tz0).1.1) ∧ wr.cell? ⟨g, j * 2 + 1, none⟩ = some (.slice (Z.getD j tz0).1.2.1 (Z.getD j tz0).1.2.2.1 (Z.getD j tz0).1.2.2.2) ∧ wr.frozen? ⟨g, j * 2, none⟩ = false ∧ wr.frozen? ⟨g, j * 2 + 1, none⟩ = false := by
  obtain ⟨a, c, e, hc, hr⟩ := h.tz.shape
  simp only [Value.slice.injEq] at e
  obtain ⟨rfl, -, rfl⟩ := e
  obtain ⟨b, e, hu⟩ := hr j (by simpa using hj)
  simp only [Option.some.injEq, Addr.mk.injEq, and_true] at e
  obtain rfl := e
  rw [map_getD] at hu
  obtain ⟨-, cur, hcur⟩ := h.tz.block (b := g) rfl
  exact ⟨hu 0 _ (by omega) rfl, hu 1 _ (by omega) rfl, frozen_of_row wr _ _ _ 24 hcur, frozen_of_row wr _ _ _ 24 hcur⟩
end Go.Proofs.Ytbchinfmdioijaa
