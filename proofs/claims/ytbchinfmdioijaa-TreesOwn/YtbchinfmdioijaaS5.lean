import Derived.Test.YtbchinfmdioijaaR7
import Derived.Test.YtbchinfmdioijaaY3
set_option linter.unusedVariables false
set_option linter.unusedSimpArgs false
namespace Go.Proofs.Ytbchinfmdioijaa
open Go.RowKit Go.Shelf
set_option maxRecDepth 100000 in
set_option maxHeartbeats 1000000 in
theorem rDepth_err (w : World) (a : Option Addr) (cap : Nat) (out : Int) (L : List Nd) (hLn : L.length ≤ 2199023255552) (hE : shE L ≠ 0) (hrd : RdN w a L) :
    Calls Try.prog 20 #[.agg #[.int .i64 out, .slice a L.length cap]] w fun e w' => e = .returned (.tuple #[.int .i64 0, .int .i64 (shE L)]) ∧ Keep w w' := by
  have hS := fun (wx : World) (k : Keep w wx) => rShape_any wx a cap out L hLn (hrd.keep k)
  have hB : (shE L == 0) = false := by simpa using hE
  have hB2 : (shE L != 0) = true := by simpa using hE
  have k0 : Keep w (w.alloc (Obj.cells #[Value.int IntKind.i64 out, Value.slice a L.length cap] 24)) := (Keep.refl w).alloc _
  clear hE
  generalize shE L = E at *
  go_enter Try.func20, Try.ntmps20
  go_wp2_with fail
  refine (hS _ k0).mono ?_
  rintro e w2 ⟨rfl, k2⟩
  go_wp2_with fail
  go_ret2
  exact ⟨rfl, k0.trans k2⟩
theorem rDepth_any (a : Option Addr) (cap : Nat) (out : Int) (L : List Nd) (hLn : L.length ≤ 2199023255552) (w : World) (hrd : RdN w a L) :
    Calls Try.prog 20 #[.agg #[.int .i64 out, .slice a L.length cap]] w fun e w' => e = .returned (.tuple #[.int .i64 (dpA L : Nat), .int .i64 (shE L)]) ∧ Keep w w' := by
  by_cases hE : shE L = 0
  · have e1 : dpA L = dep (shp L) L.length := by unfold dpA; rw [if_pos hE]
    rw [e1, hE]
    exact (callsIn_wide (n := 3)).1 (rDepth_in 3 (by omega) w a cap out L hLn hE hrd)
  · have e1 : dpA L = 0 := by unfold dpA; rw [if_neg hE]
    rw [e1]
    exact rDepth_err w a cap out L hLn hE hrd
theorem lvs_len {L : List Nd} (hLn : L.length ≤ 2199023255552) : (lvs L).length ≤ 17592186044416 ∧ (inn L).length ≤ 17592186044416 := by
  by_cases hE : shE L = 0
  · have h1 := ord_len (shE_rgt hE).wi
    unfold lvs inn
    rw [if_pos hE, if_pos hE]
    have h2 := List.length_filter_le (fun i => (!decide ((L.getD i nd0).kd = 2 ∨ (L.getD i nd0).kd = 3))) (ord (shp L) L.length)
    have h3 := List.length_filter_le (fun i => decide ((L.getD i nd0).kd = 2 ∨ (L.getD i nd0).kd = 3)) (ord (shp L) L.length)
    omega
  · unfold lvs inn
    rw [if_neg hE, if_neg hE]
    simp
set_option maxRecDepth 100000 in
set_option maxHeartbeats 1000000 in
theorem law_shapes (a : Option Addr) (cap : Nat) (out : Int) (L : List Nd) (hLn : L.length ≤ 2199023255552) (w : World) (hrd : RdN w a L) :
    Calls Try.prog 3 #[.agg #[.int .i64 out, .slice a L.length cap]] w fun e w' => e = .returned (.bool true) ∧ Keep w w' := by
  have hS := fun (wx : World) (k : Keep w wx) => Shape_any wx a cap out L hLn (hrd.keep k)
  have hT := fun (wx : World) (k : Keep w wx) => rShape_any wx a cap out L hLn (hrd.keep k)
  have hA := fun (wx : World) (k : Keep w wx) => Leaves_any a cap out L hLn wx (hrd.keep k)
  have hB := fun (wx : World) (k : Keep w wx) => Inner_any a cap out L hLn wx (hrd.keep k)
  have hC := fun (wx : World) (k : Keep w wx) => Depth_any a cap out L hLn wx (hrd.keep k)
  have hD := fun (wx : World) (k : Keep w wx) => rLeaves_any a cap out L hLn wx (hrd.keep k)
  have hE := fun (wx : World) (k : Keep w wx) => rInner_any a cap out L hLn wx (hrd.keep k)
  have hF := fun (wx : World) (k : Keep w wx) => rDepth_any a cap out L hLn wx (hrd.keep k)
  obtain ⟨hl1, hl2⟩ := lvs_len hLn
  have hlv := lives_any
  have k0 : Keep w (w.alloc (Obj.cells #[Value.int IntKind.i64 out, Value.slice a L.length cap] 24)) := (Keep.refl w).alloc _
  have c0 : (w.alloc (Obj.cells #[Value.int IntKind.i64 out, Value.slice a L.length cap] 24)).cell? ⟨w.heap.size, 0, none⟩ = some (.int .i64 out) := by rw [cell_of_row _ _ 0 _ 24 (0, 0) (heap_alloc_new w _)]; rfl
  have c1 : (w.alloc (Obj.cells #[Value.int IntKind.i64 out, Value.slice a L.length cap] 24)).cell? ⟨w.heap.size, 1, none⟩ = some (.slice a L.length cap) := by rw [cell_of_row _ _ 1 _ 24 (0, 0) (heap_alloc_new w _)]; rfl
  generalize lvs L = lA at *
  generalize inn L = lB at *
  generalize dpA L = dC at *
  generalize shE L = E at *
  generalize shI L = I at *
  go_enter Try.func3, Try.ntmps3
  go_wp2_with fail
  generalize w.alloc _ = w1 at k0 c0 c1 ⊢
  refine (hS _ k0).mono ?_
  rintro e w2 ⟨rfl, k2⟩
  have c0 := k2.cell c0
  have c1 := k2.cell c1
  have k02 := k0.trans k2
  go_wp2_with fail
  refine (hT _ k02).mono ?_
  rintro e w3 ⟨rfl, k3⟩
  have c0 := k3.cell c0
  have c1 := k3.cell c1
  have k03 := k02.trans k3
  go_wp2_with fail
  refine (hlv _).mono ?_
  rintro e w4 ⟨rfl, k4⟩
  have c0 := k4.cell c0
  have c1 := k4.cell c1
  have k04 := k03.trans k4
  go_wp2_with fail
  refine (hA _ k04).mono ?_
  rintro e w5 ⟨v5, rfl, o5, b5, k5⟩
  have c0 := k5.cell c0
  have c1 := k5.cell c1
  have k05 := k04.trans k5
  obtain ⟨a5, n5, rfl, hn5, r5⟩ := o5.rdI
  go_wp2_with fail
  refine (hB _ k05).mono ?_
  rintro e w6 ⟨v6, rfl, o6, b6, k6⟩
  have c0 := k6.cell c0
  have c1 := k6.cell c1
  have k06 := k05.trans k6
  have r5 := r5.keep k6
  obtain ⟨a6, n6, rfl, hn6, r6⟩ := o6.rdI
  go_wp2_with fail
  refine (hC _ k06).mono ?_
  rintro e w7 ⟨rfl, k7⟩
  have c0 := k7.cell c0
  have c1 := k7.cell c1
  have k07 := k06.trans k7
  have r5 := r5.keep k7
  have r6 := r6.keep k7
  go_wp2_with fail
  refine (hD _ k07).mono ?_
  rintro e w8 ⟨v8, rfl, o8, b8, k8⟩
  have c0 := k8.cell c0
  have c1 := k8.cell c1
  have k08 := k07.trans k8
  have r5 := r5.keep k8
  have r6 := r6.keep k8
  obtain ⟨a8, n8, rfl, hn8, r8⟩ := o8.rdI
  go_wp2_with fail
  refine (hE _ k08).mono ?_
  rintro e w9 ⟨v9, rfl, o9, b9, k9⟩
  have c0 := k9.cell c0
  have c1 := k9.cell c1
  have k09 := k08.trans k9
  have r5 := r5.keep k9
  have r6 := r6.keep k9
  have r8 := r8.keep k9
  obtain ⟨a9, n9, rfl, hn9, r9⟩ := o9.rdI
  go_wp2_with fail
  refine (hF _ k09).mono ?_
  rintro e w10 ⟨rfl, k10⟩
  have k010 := k09.trans k10
  have r5 := r5.keep k10
  have r6 := r6.keep k10
  have r8 := r8.keep k10
  have r9 := r9.keep k10
  have hI := fun (wx : World) (k : Keep w10 wx) => rInts_any a5 a8 n5 n8 (lA.map (fun x => ((x : Nat) : Int))) (lA.map (fun x => ((x : Nat) : Int))) wx (by simpa using hl1) (r5.keep k) (r8.keep k)
  have hJ := fun (wx : World) (k : Keep w10 wx) => rInts_any a6 a9 n6 n9 (lB.map (fun x => ((x : Nat) : Int))) (lB.map (fun x => ((x : Nat) : Int))) wx (by simpa using hl2) (r6.keep k) (r9.keep k)
  simp only [decide_true, List.length_map] at hI hJ
  clear hS hT hA hB hC hD hE hF
  go_wp2_with fail
  refine (hI _ (Keep.refl _)).mono ?_
  rintro e w11 ⟨rfl, k11⟩
  go_wp2_with fail
  refine (hJ _ k11).mono ?_
  rintro e w12 ⟨rfl, k12⟩
  go_wp2_with fail
  go_ret
  exact ⟨ret_bool (by simp), k010.trans (k11.trans k12)⟩
end Go.Proofs.Ytbchinfmdioijaa
set_option linter.unusedVariables false
set_option linter.unusedSimpArgs false
namespace Go.Proofs.Ytbchinfmdioijaa
open Go.RowKit Go.Shelf
set_option maxRecDepth 100000 in
theorem sums_any (a b : Option Addr) (ca cb : Nat) (la lb : List Int) (w : World) (hla : la.length ≤ 17592186044416) (ha : RdI w a la) (hb : RdI w b lb) :
    Calls Try.prog 31 #[.slice a la.length ca, .slice b lb.length cb] w fun e w' => e = .returned (.bool (decide (la = lb))) ∧ Keep w w' := by
  by_cases hl : la.length = lb.length
  · go_enter Try.func31, Try.ntmps31
    rw [← hl]
    replace hl : Hid _ := hl
    go_wp2_with fail
    go_loopw [13] (fun iv wr => ∃ k : Nat, k ≤ la.length ∧ iv = .int .i64 k ∧ Keep w wr ∧ Hid (∀ j, j < k → la.getD j 0 = lb.getD j 0)) (fun iv _ => la.length - (intOf iv).toNat)
    case atStart => exact ⟨0, by omega, rfl, Keep.refl w, by intro j hj; omega⟩
    case round =>
      obtain ⟨k, hk, rfl, kw, hinv⟩ := hrel
      by_cases hkl : k < la.length
      · have hkc : (k : Int) < (la.length : Int) := by omega
        have hkl2 : k < lb.length := by have := hl.out; omega
        obtain ⟨b1, o1, rfl, c1⟩ := (ha.keep kw) k hkl
        obtain ⟨b2, o2, rfl, c2⟩ := (hb.keep kw) k hkl2
        obtain ⟨x, hx⟩ : ∃ x, la.getD k 0 = x := ⟨_, rfl⟩
        obtain ⟨y, hy⟩ : ∃ y, lb.getD k 0 = y := ⟨_, rfl⟩
        rw [hx] at c1
        rw [hy] at c2
        have HX : Hid (la.getD k 0 = x ∧ lb.getD k 0 = y) := ⟨hx, hy⟩
        clear hx hy
        by_cases hxy : x = y
        · subst hxy
          have HN : Hid (∀ j, j < k + 1 → la.getD j 0 = lb.getD j 0) := by
            intro j hj
            by_cases e : j = k
            · subst e; rw [HX.out.1, HX.out.2]
            · exact hinv.out j (by omega)
          go_wp2_with fail
          go_region_with fail
          all_goals
            go_simp
            go_wp2_with fail
            go_roundw
            case rel => exact ⟨k + 1, by omega, by go_num, kw.drew, HN⟩
            case measure => simp [intOf]; omega
        · have hB : (x == y) = false := by simpa using hxy
          have hB2 : (x != y) = true := by simpa using hxy
          have HF : Hid (decide (la = lb) = false) := by
            show _ = _
            rw [decide_eq_false_iff_not]
            intro e
            have := HX.out
            rw [e] at this
            exact hxy (this.1.symm.trans this.2)
          clear hxy
          go_wp2_with fail
          go_region_with fail
          all_goals
            go_simp
            go_wp2_with fail
            go_ret
            exact ⟨ret_bool HF.out.symm, kw.drew⟩
      · have hkc : ¬ (k : Int) < (la.length : Int) := by omega
        have HT : Hid (decide (la = lb) = true) := decide_eq_true (int_ext hl.out (fun j hj => hinv.out j (by omega)))
        go_wp2_with fail
        go_ret
        exact ⟨ret_bool HT.out.symm, kw⟩
  · have hB : ((la.length : Int) == (lb.length : Int)) = false := by rw [beq_eq_false_iff_ne]; omega
    have hB2 : ((la.length : Int) != (lb.length : Int)) = true := by simp; omega
    have HF : Hid (decide (la = lb) = false) := by
      show _ = _
      rw [decide_eq_false_iff_not]
      intro e; rw [e] at hl; exact hl rfl
    go_enter Try.func31, Try.ntmps31
    go_wp2_with fail
    go_ret
    exact ⟨ret_bool HF.out.symm, Keep.refl _⟩
end Go.Proofs.Ytbchinfmdioijaa
set_option linter.unusedVariables false
set_option linter.unusedSimpArgs false
namespace Go.Proofs.Ytbchinfmdioijaa
open Go.RowKit Go.Shelf
attribute [local go_sem] run_store_float
/-- append(nil, l...), whether l is nil or not. -/
theorem wpList_copyAny {w : World} {ops : Array Oper} {rest : List Oper} {o : Oper} {a : Act} {Q : Exit → Act → World → Prop} (hgd : o.guard = none) (s x : Operand)
    (ho : o.op = .call { callee := .builtin .append, args := #[s, x], argTypes := #[29, 29] }) (l : List Int) (ad : Option Addr) (c : Nat) (hs : a.eval s = .slice none 0 0)
    (hx : a.eval x = .slice ad l.length c) (hr : RdI w ad l) (hlen : l.length ≤ 17592186044416)
    (hK : ∀ v w1, OwnZ 3 w.heap.size w1 v l → Keep w w1 → wpList Try.prog ops Q rest (a.put o.dst v) w1) :
    wpList Try.prog ops Q (o :: rest) a w := by
  rcases ad with _ | ad
  · obtain rfl : l = [] := by
      by_cases h : l = []
      · exact h
      · obtain ⟨b, o, e, -⟩ := hr 0 (List.length_pos_iff.2 h); cases e
    refine wpList_plain hgd fun K hK' => ?_
    have hrun : (Builtin.append_ #[29, 29] o.type #[.slice none 0 0, .slice none 0 c]).run Try.prog w = .ok (.slice none 0 0) w := by
      go_simp
    unfold Oper.wp
    simp [execOp, ho, resolve, invoke, builtin, hs, hx, hrun, Result.andThen]
    exact hK' _ _ (hK _ w (OwnZ.nil _ _ _) (Keep.refl w))
  · exact wpList_copyN hgd s x ho l ad c hs hx hr hlen hK
/-- Nodes as cells. -/
def UN : List (Nd × Option Addr × Nat) → List Value
  | [] => []
  | r :: L => .int .u8 r.1.kd :: .int .i64 r.1.vl :: .int .i64 r.1.ft :: .float .f64 r.1.th :: .slice r.2.1 r.1.cs.length r.2.2 :: .int .u8 r.1.ms :: .int .i64 r.1.lf :: .int .i64 r.1.rt :: UN L
theorem UN_append : ∀ L M, UN (L ++ M) = UN L ++ UN M
  | [], _ => rfl
  | r :: L, M => by simp [UN, UN_append L M]
theorem UN_length : ∀ L, (UN L).length = L.length * 8
  | [] => rfl
  | r :: L => by simp [UN, UN_length L]; omega
theorem UN_one : ∀ L, ∀ u ∈ UN L, u.oneCell' = true
  | [], u, h => by simp [UN] at h
  | r :: L, u, h => by
    simp only [UN, List.mem_cons] at h
    rcases h with rfl | rfl | rfl | rfl | rfl | rfl | rfl | rfl | h
    all_goals first | rfl | exact UN_one L u h
abbrev nt0 : Nd × Option Addr × Nat := (nd0, none, 0)
theorem UN_get : ∀ (K : List (Nd × Option Addr × Nat)) (j i : Nat), j < K.length → i < 8 → (UN K)[j * 8 + i]? = (UN [K.getD j nt0])[i]?
  | [], j, i, h, _ => by simp at h
  | r :: K, 0, i, _, hi => by
    simp only [Nat.zero_mul, Nat.zero_add, List.getD_cons_zero]
    match i, hi with
    | 0, _ => rfl
    | 1, _ => rfl
    | 2, _ => rfl
    | 3, _ => rfl
    | 4, _ => rfl
    | 5, _ => rfl
    | 6, _ => rfl
    | 7, _ => rfl
  | r :: K, j + 1, i, h, hi => by
    have := UN_get K j i (by simpa using h) hi
    rw [show (j + 1) * 8 + i = (j * 8 + i) + 1 + 1 + 1 + 1 + 1 + 1 + 1 + 1 by omega]
    simp only [UN, List.getElem?_cons_succ, List.getD_cons_succ]
    exact this
def OwnN (B : Nat) (w : World) (v : Value) (K : List (Nd × Option Addr × Nat)) : Prop := w.ownsRow B 40 8 v K.length (UN K)
theorem OwnN.nil (B : Nat) (w : World) : OwnN B w (.slice none 0 0) [] := ⟨rfl, .inl ⟨rfl, rfl⟩⟩
theorem OwnN.same {B : Nat} {w w' : World} {v : Value} {K : List (Nd × Option Addr × Nat)} (h : OwnN B w v K) (k : ∀ b, v.ownBlock = some b → w'.heap[b]? = w.heap[b]?) : OwnN B w' v K := by
  refine ⟨h.1, ?_⟩
  rcases h.2 with h2 | ⟨g, cap, cur, hv, hg, hh, r⟩
  · exact .inl h2
  · exact .inr ⟨g, cap, cur, hv, hg, by rw [k g (by rw [hv]; rfl)]; exact hh, r⟩
theorem OwnN.block {B : Nat} {w : World} {v : Value} {K : List (Nd × Option Addr × Nat)} (h : OwnN B w v K) {b : Nat} (hb : v.ownBlock = some b) : B ≤ b ∧ ∃ cur, w.heap[b]? = some (.cells cur 40 (0, 0)) := by
  rcases h.2 with ⟨h1, _⟩ | ⟨g, cap, cur, hv, hg, hh, r⟩
  · rw [h1] at hb; cases hb
  · rw [hv] at hb
    have hb : some g = some b := hb
    simp only [Option.some.injEq] at hb
    subst hb
    exact ⟨hg, cur, hh⟩
theorem OwnN.keep {B : Nat} {w w' : World} {v : Value} {K : List (Nd × Option Addr × Nat)} (h : OwnN B w v K) (k : Keep w w') : OwnN B w' v K :=
  h.same (fun b hb => by obtain ⟨_, cur, hh⟩ := h.block hb; exact k.block b (Array.getElem?_eq_some_iff.1 hh).1)
theorem OwnN.shape {B : Nat} {w : World} {v : Value} {K : List (Nd × Option Addr × Nat)} (h : OwnN B w v K) : ∃ a c, v = .slice a K.length c ∧ K.length ≤ c ∧ ∀ j, j < K.length → ∃ b, a = some ⟨b, 0, none⟩ ∧ ∀ i u, i < 8 → (UN [K.getD j nt0])[i]? = some u → w.cell? ⟨b, j * 8 + i, none⟩ = some u := by
  rcases h.2 with ⟨h1, h2⟩ | ⟨g, cap, cur, hv, hg, hh, h1, h2, h3, h4⟩
  · exact ⟨none, 0, by rw [h1, h2], by omega, fun j hj => by omega⟩
  · refine ⟨some ⟨g, 0, none⟩, cap, hv, h1, ?_⟩
    intro j hj
    refine ⟨g, rfl, ?_⟩
    intro i u hi hu
    have e1 : cur.toList[j * 8 + i]? = (UN K)[j * 8 + i]? := by rw [← h4, List.getElem?_take, if_pos (by omega)]
    rw [cell_of_row w g _ cur 40 (0, 0) hh, ← hu, ← UN_get K j i hj hi, ← e1]; simp
theorem i40 : (Try.prog.info? 40).map (fun i => (i.zero, i.size, i.bytes)) = some (some (.agg #[.int .u8 0, .int .i64 0, .int .i64 0, .float .f64 0, .slice none 0 0, .int .u8 0, .int .i64 0, .int .i64 0]), 8, 80) := by kernel_rfl
theorem appN_sep (B : Nat) (w : World) (ty : Nat) (v : Value) (l : List (Nd × Option Addr × Nat)) (y : Nd × Option Addr × Nat) (hown : OwnN B w v l) (hB : B ≤ w.heap.size) (ad : Addr) (c : Nat) (hnews : ∀ j u, (UN [y])[j]? = some u → w.cell? (ad.add j) = some u) (hlen : l.length + 1 ≤ 1759218604441) :
    ∃ v' w', (Builtin.append_ #[22, 22] ty #[v, .slice (some ad) 1 c]).run Try.prog w = .ok v' w' ∧ OwnN B w' v' (l ++ [y]) ∧ w.grownBy w' v.ownBlock ∧ (v'.ownBlock = v.ownBlock ∨ v'.ownBlock = some w.heap.size) := by
  obtain ⟨i0, hi, hz0, hz1, hz2⟩ := info_parts i40
  have h1 : ∀ u ∈ UN [y], u.oneCell' = true := UN_one _
  have hl : (UN [y]).length = 1 * 8 := by rw [UN_length]; rfl
  obtain ⟨v', w', hr, h2, h3, -⟩ := run_append_own (P := Try.prog) w B 22 ty 40 i0 _ 8 80 Try.underlying22 hi hz0 hz1 hz2 rfl (by decide) v _ _ hown ad 1 c (UN [y]) hl hnews h1 (by simp only [maxLen]; omega) (by omega) hB
  refine ⟨v', w', hr, ?_, h3, ?_⟩
  · unfold OwnN; rw [List.length_append, UN_append]; exact h2
  rcases hown.2 with ⟨rfl, hn⟩ | ⟨g, cap, cur, rfl, hbg, hg, hnc, hcm, hcs, htake⟩
  · have e := run_append_nil (P := Try.prog) w 22 ty 40 i0 _ Try.underlying22 hi hz0 ad 1 c (UN [y]) (by rw [hz1]; exact hl) hnews (by omega) (by omega) (by rw [hz2]; omega)
    rw [hr] at e
    simp only [Result.ok.injEq] at e
    rw [e.1]
    exact .inr rfl
  · by_cases hroom : l.length + 1 ≤ cap
    · have e := run_append_room (P := Try.prog) w 22 ty 40 i0 Try.underlying22 hi g l.length cap cur hg ad 1 c (UN [y]) (by rw [hz1]; exact hl) hnews h1 hroom (by rw [hz1, UN_length]; simp; omega)
      rw [hr] at e
      simp only [Result.ok.injEq] at e
      rw [e.1]
      exact .inl rfl
    · have holds : ∀ j u, (UN l)[j]? = some u → w.cell? ((⟨g, 0, none⟩ : Addr).add j) = some u := World.ownsRow.cells (v := .slice (some ⟨g, 0, none⟩) l.length cap) hown (g := g) rfl
      have e := run_append_grow (P := Try.prog) w 22 ty 40 i0 _ Try.underlying22 hi hz0 ⟨g, 0, none⟩ l.length cap (UN l) (by rw [hz1, UN_length]) holds ad 1 c (UN [y]) (by rw [hz1]; exact hl) hnews (by omega) (by omega) (growslice_fits (by omega) (by rw [hz2]; omega))
      rw [hr] at e
      simp only [Result.ok.injEq] at e
      rw [e.1]
      exact .inr rfl
/-- append(l, node). -/
theorem wpList_appN (B : Nat) (w : World) {ops : Array Oper} {rest : List Oper} {o : Oper} {a : Act} {Q : Exit → Act → World → Prop} (hgd : o.guard = none) (s x : Operand)
    (hop : o.op = .call { callee := .builtin .append, args := #[s, x], argTypes := #[22, 22] }) (l : List (Nd × Option Addr × Nat)) (y : Nd × Option Addr × Nat) (v : Value) (hs : a.eval s = v) (hown : OwnN B w v l) (hB : B ≤ w.heap.size) (ad : Addr) (c : Nat) (hx : a.eval x = .slice (some ad) 1 c)
    (hnews : ∀ j u, (UN [y])[j]? = some u → w.cell? (ad.add j) = some u) (hlen : l.length + 1 ≤ 1759218604441)
    (hK : ∀ v' w', OwnN B w' v' (l ++ [y]) → w.grownBy w' v.ownBlock → (v'.ownBlock = v.ownBlock ∨ v'.ownBlock = some w.heap.size) → wpList Try.prog ops Q rest (a.put o.dst v') w') :
    wpList Try.prog ops Q (o :: rest) a w := by
  refine wpList_plain hgd fun K hK' => ?_
  obtain ⟨v', w', hrun, r1, r2, r3⟩ := appN_sep B w o.type v l y hown hB ad c hnews hlen
  unfold Oper.wp
  simp [execOp, hop, resolve, invoke, builtin, hs, hx, hrun, Result.andThen]
  exact hK' _ _ (hK v' w' r1 r2 r3)
end Go.Proofs.Ytbchinfmdioijaa
set_option linter.unusedVariables false
set_option linter.unusedSimpArgs false
namespace Go.Proofs.Ytbchinfmdioijaa
open Go.RowKit Go.Shelf
attribute [local go_sem] run_store_float
/-- What Nodes holds between two rounds. -/
structure NIt (L : List Nd) (w : World) (k : Nat) (v : Value) (wr : World) (K : List (Nd × Option Addr × Nat)) : Prop where
  len : K.length = k
  eq : ∀ j, j < k → (K.getD j nt0).1 = L.getD j nd0
  own : OwnN w.heap.size wr v K
  cats : ∀ j, j < k → OwnZ 3 w.heap.size wr (.slice (K.getD j nt0).2.1 (K.getD j nt0).1.cs.length (K.getD j nt0).2.2) (K.getD j nt0).1.cs
  ne : ∀ j, j < k → ∀ b, (Value.slice (K.getD j nt0).2.1 (K.getD j nt0).1.cs.length (K.getD j nt0).2.2).ownBlock = some b → v.ownBlock ≠ some b
  kp : Keep w wr
theorem getD_snocN (K : List (Nd × Option Addr × Nat)) (r : Nd × Option Addr × Nat) (j : Nat) : (K ++ [r]).getD j nt0 = if j = K.length then r else K.getD j nt0 := by
  by_cases h : j < K.length
  · rw [if_neg (by omega)]; simp [List.getD, List.getElem?_append, h]
  · by_cases h2 : j = K.length
    · subst h2; simp [List.getD]
    · rw [if_neg h2]; simp [List.getD, List.getElem?_append, h, show ¬ j - K.length = 0 by omega]
theorem newsN (W : World) (n : Nat) (hn : W.heap.size = n) (N : Nd) (va : Option Addr) (cc : Nat) : ∀ j u, (UN [(N, va, cc)])[j]? = some u → (W.alloc (Obj.cells #[Value.int .u8 N.kd, Value.int .i64 N.vl, Value.int .i64 N.ft, Value.float .f64 N.th, Value.slice va N.cs.length cc, Value.int .u8 N.ms, Value.int .i64 N.lf, Value.int .i64 N.rt] 40)).cell? ((⟨n, 0, none⟩ : Addr).add j) = some u := by
  subst hn
  intro j u hj
  rw [Go.WideShapes.add_plain, Nat.zero_add, cell_of_row _ _ _ _ 40 (0, 0) (heap_alloc_new W _)]
  simpa [UN] using hj
theorem NIt.step {L : List Nd} {w : World} {k : Nat} {v : Value} {wr : World} {K : List (Nd × Option Addr × Nat)} (hI : NIt L w k v wr K) {N : Nd} {va : Option Addr} {cc : Nat} {W : World} (hN : L.getD k nd0 = N) (kW : Keep wr W)
    (hO : OwnZ 3 (wr.heap.size + 1) W (.slice va N.cs.length cc) N.cs) {v' : Value} {w5 : World} (hO5 : OwnN w.heap.size w5 v' (K ++ [(N, va, cc)])) (g5 : W.grownBy w5 v.ownBlock) (hv : v'.ownBlock = v.ownBlock ∨ v'.ownBlock = some W.heap.size) :
    NIt L w (k + 1) v' w5 (K ++ [(N, va, cc)]) := by
  have hlt : ∀ b, v.ownBlock = some b → w.heap.size ≤ b ∧ b < wr.heap.size := by
    intro b hb
    obtain ⟨h1, cur, hc⟩ := hI.own.block hb
    exact ⟨h1, (Array.getElem?_eq_some_iff.1 hc).1⟩
  have hC : ∀ j, j < k → ∀ b, (Value.slice (K.getD j nt0).2.1 (K.getD j nt0).1.cs.length (K.getD j nt0).2.2).ownBlock = some b → b < wr.heap.size := by
    intro j hj b hb
    obtain ⟨h1, cur, hc⟩ := (hI.cats j hj).block hb
    exact (Array.getElem?_eq_some_iff.1 hc).1
  have hN' : ∀ b, (Value.slice va N.cs.length cc).ownBlock = some b → wr.heap.size + 1 ≤ b ∧ b < W.heap.size := by
    intro b hb
    obtain ⟨h1, cur, hc⟩ := hO.block hb
    exact ⟨h1, (Array.getElem?_eq_some_iff.1 hc).1⟩
  have hle := kW.le
  have hle0 := hI.kp.le
  have hbl : ∀ b, b < W.heap.size → v.ownBlock ≠ some b → w5.heap[b]? = W.heap[b]? := fun b hb hne => g5.block b hb (fun e => hne e.symm)
  refine ⟨by rw [List.length_append, hI.len]; rfl, ?_, hO5, ?_, ?_, ?_⟩
  · intro j hj
    rw [getD_snocN, hI.len]
    by_cases e : j = k
    · rw [if_pos e, e, hN]
    · rw [if_neg e]; exact hI.eq j (by omega)
  · intro j hj
    rw [getD_snocN, hI.len]
    by_cases e : j = k
    · rw [if_pos e]
      refine (hO.mono (by omega)).same ?_
      intro b hb
      obtain ⟨h1, h2⟩ := hN' b hb
      exact hbl b h2 (fun e => by have := hlt b e; omega)
    · rw [if_neg e]
      have hj' : j < k := by omega
      refine (hI.cats j hj').same ?_
      intro b hb
      have h1 := hC j hj' b hb
      rw [hbl b (by omega) (hI.ne j hj' b hb), kW.block b h1]
  · intro j hj
    rw [getD_snocN, hI.len]
    by_cases e : j = k
    · rw [if_pos e]
      intro b hb e2
      obtain ⟨h1, h2⟩ := hN' b hb
      rcases hv with h | h
      · rw [h] at e2; have := hlt b e2; omega
      · rw [h] at e2; simp only [Option.some.injEq] at e2; omega
    · rw [if_neg e]
      have hj' : j < k := by omega
      intro b hb e2
      have h1 := hC j hj' b hb
      rcases hv with h | h
      · rw [h] at e2; exact hI.ne j hj' b hb e2
      · rw [h] at e2; simp only [Option.some.injEq] at e2; omega
  · exact Below.grown (hI.kp.trans kW) g5 (by omega) (fun b hb => (hlt b hb).1)
set_option maxRecDepth 100000 in
set_option maxHeartbeats 2000000 in
theorem rNodes_any (a : Option Addr) (c : Nat) (L : List Nd) (w : World) (hLn : L.length ≤ 1759218604441) (ha : RdN w a L) :
    Calls Try.prog 60 #[.slice a L.length c] w fun e w' => ∃ v, e = .returned v ∧ (∃ K, NIt L w L.length v w' K) ∧ Keep w w' := by
  go_enter Try.func60, Try.ntmps60
  go_wp2_with fail
  go_loopw [3, 9] (fun v iv wr => ∃ (k : Nat) (K : List (Nd × Option Addr × Nat)), k ≤ L.length ∧ iv = .int .i64 k ∧ NIt L w k v wr K) (fun _ iv _ => L.length - (intOf iv).toNat)
  case atStart => exact ⟨0, [], by omega, rfl, rfl, fun j hj => by omega, OwnN.nil _ _, fun j hj => by omega, fun j hj => by omega, Keep.refl w⟩
  case round =>
    obtain ⟨k, K, hk, rfl, hI⟩ := hrel
    by_cases hkl : k < L.length
    · have hkc : (k : Int) < (L.length : Int) := by omega
      obtain ⟨b, o, ca, cp, rfl, hnd⟩ := (ha.keep hI.kp) k hkl
      obtain ⟨N, hN⟩ : ∃ N, L.getD k nd0 = N := ⟨_, rfl⟩
      have HN : Hid (L.getD k nd0 = N) := hN
      rw [hN] at hnd
      clear hN
      have c0 := hnd.c0
      have c1 := hnd.c1
      have c2 := hnd.c2
      have c3 := hnd.c3
      have c4 := hnd.c4
      have c5 := hnd.c5
      have c6 := hnd.c6
      have c7 := hnd.c7
      obtain ⟨box, hbox⟩ : ∃ box, (Obj.cells #[Value.int .u8 N.kd, Value.int .i64 N.vl, Value.int .i64 N.ft, Value.float .f64 N.th, Value.slice ca N.cs.length cp, Value.int .u8 N.ms, Value.int .i64 N.lf, Value.int .i64 N.rt] 40) = box := ⟨_, rfl⟩
      have kb : Keep wr (wr.alloc box) := (Keep.refl wr).alloc _
      have hrd := hnd.rd.keep kb
      have hsz := hnd.sz
      rw [← hbox] at kb hrd
      clear hnd hbox
      have hbx : (wr.alloc (Obj.cells #[Value.int .u8 N.kd, Value.int .i64 N.vl, Value.int .i64 N.ft, Value.float .f64 N.th, Value.slice ca N.cs.length cp, Value.int .u8 N.ms, Value.int .i64 N.lf, Value.int .i64 N.rt] 40)).heap[wr.heap.size]? = some (Obj.cells #[Value.int .u8 N.kd, Value.int .i64 N.vl, Value.int .i64 N.ft, Value.float .f64 N.th, Value.slice ca N.cs.length cp, Value.int .u8 N.ms, Value.int .i64 N.lf, Value.int .i64 N.rt] 40 (0, 0)) := heap_alloc_new wr _
      have hbs := (Array.getElem?_eq_some_iff.1 hbx).1
      replace hbx : Hid _ := hbx
      have hKl : K.length + 1 ≤ 1759218604441 := by have := hI.len; omega
      have hB4 := hI.kp.le
      go_wp2_with (at_builtin; first | (refine wpList_copyAny rfl _ _ rfl N.cs ca cp ?_ ?_ hrd hsz ?_; rotate_left 2; intro vc w2 hO k2; obtain ⟨va, cc, rfl, hcc, hrc⟩ := hO.shape; have hb2 := (k2.block _ hbs).trans hbx.out; have fz := frozen_of_row w2 _ 4 _ 40 hb2; have d0 := cell_of_row w2 _ 0 _ 40 (0, 0) hb2; have d1 := cell_of_row w2 _ 1 _ 40 (0, 0) hb2; have d2 := cell_of_row w2 _ 2 _ 40 (0, 0) hb2; have d3 := cell_of_row w2 _ 3 _ 40 (0, 0) hb2; have d4 := cell_of_row w2 _ 4 _ 40 (0, 0) hb2; have d5 := cell_of_row w2 _ 5 _ 40 (0, 0) hb2; have d6 := cell_of_row w2 _ 6 _ 40 (0, 0) hb2; have d7 := cell_of_row w2 _ 7 _ 40 (0, 0) hb2; simp at d0 d1 d2 d3 d4 d5 d6 d7; replace hb2 : Hid _ := hb2; clear hrc c0 c1 c2 c3 c4 c5 c6 c7 hrd) | (refine wpList_appN w.heap.size _ rfl _ _ rfl K (N, va, cc) u3 ?_ (hI.own.keep (((kb.trans k2).setCell (Nat.le_refl _) _).alloc _)) (Nat.le_trans hB4 (((kb.trans k2).setCell (Nat.le_refl _) _).alloc _).le) ⟨w2.heap.size, 0, none⟩ 1 ?_ (newsN _ _ (by simp) N va cc) hKl ?_; rotate_left 2; intro v5 w5 hO5 g5 hv5))
      · go_roundw
        case rel =>
          have kW := ((kb.trans k2).setCell (p := ⟨wr.heap.size, 4, none⟩) (Nat.le_refl _) (.slice va N.cs.length cc))
          have hO1 := hO
          rw [World.size_alloc] at hO1
          have hO2 : OwnZ 3 (wr.heap.size + 1) (w2.setCell ⟨wr.heap.size, 4, none⟩ (.slice va N.cs.length cc)) (.slice va N.cs.length cc) N.cs := hO1.same (fun b hb => neq_set w2 _ _ _ b (by have := (hO1.block hb).1; omega))
          exact ⟨k + 1, K ++ [(N, va, cc)], by omega, by go_num, hI.step HN.out (kW.alloc _) (hO2.keep ((Keep.refl _).alloc _)) hO5 g5 hv5⟩
        case measure => simp [intOf]; omega
      all_goals rfl
    · have hkc : ¬ (k : Int) < (L.length : Int) := by omega
      obtain rfl : k = L.length := by omega
      go_wp2_with fail
      go_ret
      exact ⟨_, rfl, ⟨K, hI⟩, hI.kp⟩
end Go.Proofs.Ytbchinfmdioijaa
set_option linter.unusedVariables false
set_option linter.unusedSimpArgs false
namespace Go.Proofs.Ytbchinfmdioijaa
open Go.RowKit Go.Shelf
/-- A copied row of nodes: all that it reaches lies in blocks of S. -/
def CT (w : World) (S : Nat → Prop) (a : Option Addr) (c : Nat) (L : List Nd) : Prop :=
  ∃ K, K.length = L.length ∧ (∀ j, j < L.length → (K.getD j nt0).1 = L.getD j nd0) ∧ OwnN 0 w (.slice a L.length c) K ∧
    (∀ j, j < L.length → OwnZ 3 0 w (.slice (K.getD j nt0).2.1 (K.getD j nt0).1.cs.length (K.getD j nt0).2.2) (K.getD j nt0).1.cs) ∧
    (∀ b, (Value.slice a L.length c).ownBlock = some b → S b) ∧
    (∀ j, j < L.length → ∀ b, (Value.slice (K.getD j nt0).2.1 (K.getD j nt0).1.cs.length (K.getD j nt0).2.2).ownBlock = some b → S b)
theorem CT.same {w w' : World} {S S' : Nat → Prop} {a : Option Addr} {c : Nat} {L : List Nd} (h : CT w S a c L) (hs : ∀ b, S b → w'.heap[b]? = w.heap[b]?) (hS : ∀ b, S b → S' b) : CT w' S' a c L := by
  obtain ⟨K, h1, h2, h3, h4, h5, h6⟩ := h
  exact ⟨K, h1, h2, h3.same (fun b hb => hs b (h5 b hb)), fun j hj => (h4 j hj).same (fun b hb => hs b (h6 j hj b hb)), fun b hb => hS b (h5 b hb), fun j hj b hb => hS b (h6 j hj b hb)⟩
theorem OwnN.mono {B B' : Nat} {w : World} {v : Value} {l : List (Nd × Option Addr × Nat)} (h : OwnN B w v l) (hB : B' ≤ B) : OwnN B' w v l := by
  refine ⟨h.1, ?_⟩
  rcases h.2 with h2 | ⟨g, cap, cur, hv, hg, r⟩
  · exact .inl h2
  · exact .inr ⟨g, cap, cur, hv, by omega, r⟩
theorem NIt.ct {L : List Nd} {w wr : World} {v : Value} {K : List (Nd × Option Addr × Nat)} (h : NIt L w L.length v wr K) : ∃ a c, v = .slice a L.length c ∧ L.length ≤ c ∧ CT wr (fun b => w.heap.size ≤ b ∧ b < wr.heap.size) a c L := by
  obtain ⟨a, c, e, hc, -⟩ := h.own.shape
  rw [h.len] at e hc
  refine ⟨a, c, e, hc, K, h.len, h.eq, by rw [← e]; exact h.own.mono (Nat.zero_le _), fun j hj => (h.cats j hj).mono (Nat.zero_le _), ?_, ?_⟩
  · intro b hb
    rw [← e] at hb
    obtain ⟨h1, cur, h2⟩ := h.own.block hb
    exact ⟨h1, (Array.getElem?_eq_some_iff.1 h2).1⟩
  · intro j hj b hb
    obtain ⟨h1, cur, h2⟩ := (h.cats j hj).block hb
    exact ⟨h1, (Array.getElem?_eq_some_iff.1 h2).1⟩
theorem CT.rdN {w w0 : World} {S : Nat → Prop} {a a0 : Option Addr} {c : Nat} {L : List Nd} (h : CT w S a c L) (h0 : RdN w0 a0 L) : RdN w a L := by
  obtain ⟨K, h1, h2, h3, h4, h5, h6⟩ := h
  intro j hj
  obtain ⟨a', c', e, hc, hr⟩ := h3.shape
  simp only [Value.slice.injEq] at e
  obtain ⟨rfl, -, rfl⟩ := e
  obtain ⟨b, rfl, hb⟩ := hr j (by omega)
  obtain ⟨b0, o0, ca0, cp0, -, hn0⟩ := h0 j hj
  have hcs := h4 j hj
  have he := h2 j hj
  obtain ⟨ca, hca⟩ : ∃ ca, (K.getD j nt0).2.1 = ca := ⟨_, rfl⟩
  obtain ⟨cp, hcp⟩ : ∃ cp, (K.getD j nt0).2.2 = cp := ⟨_, rfl⟩
  rw [he, hca, hcp] at hcs
  have hq : K.getD j nt0 = (L.getD j nd0, ca, cp) := by rw [← he, ← hca, ← hcp]
  rw [hq] at hb
  obtain ⟨a2, c2, e2, hc2, hr2⟩ := hcs.shape
  simp only [Value.slice.injEq] at e2
  obtain ⟨rfl, -, rfl⟩ := e2
  refine ⟨b, 0, ca, cp, rfl, ?_⟩
  rw [Nat.zero_add]
  exact ⟨hb 0 _ (by omega) rfl, hb 1 _ (by omega) rfl, hb 2 _ (by omega) rfl, hb 3 _ (by omega) rfl, hb 4 _ (by omega) rfl, hb 5 _ (by omega) rfl, hb 6 _ (by omega) rfl, hb 7 _ (by omega) rfl, hr2, hc2, hn0.sz, hn0.ok⟩
/-- Trees as cells. -/
def UT : List (Int × Option Addr × Nat × Nat) → List Value
  | [] => []
  | r :: L => .int .i64 r.1 :: .slice r.2.1 r.2.2.1 r.2.2.2 :: UT L
theorem UT_append : ∀ L M, UT (L ++ M) = UT L ++ UT M
  | [], _ => rfl
  | r :: L, M => by simp [UT, UT_append L M]
theorem UT_length : ∀ L, (UT L).length = L.length * 2
  | [] => rfl
  | r :: L => by simp [UT, UT_length L]; omega
theorem UT_one : ∀ L, ∀ u ∈ UT L, u.oneCell' = true
  | [], u, h => by simp [UT] at h
  | r :: L, u, h => by
    simp only [UT, List.mem_cons] at h
    rcases h with rfl | rfl | h
    all_goals first | rfl | exact UT_one L u h
abbrev tt0 : Int × Option Addr × Nat × Nat := (0, none, 0, 0)
theorem UT_get : ∀ (K : List (Int × Option Addr × Nat × Nat)) (j i : Nat), j < K.length → i < 2 → (UT K)[j * 2 + i]? = (UT [K.getD j tt0])[i]?
  | [], j, i, h, _ => by simp at h
  | r :: K, 0, i, _, hi => by
    simp only [Nat.zero_mul, Nat.zero_add, List.getD_cons_zero]
    match i, hi with
    | 0, _ => rfl
    | 1, _ => rfl
  | r :: K, j + 1, i, h, hi => by
    have := UT_get K j i (by simpa using h) hi
    rw [show (j + 1) * 2 + i = (j * 2 + i) + 1 + 1 by omega]
    simp only [UT, List.getElem?_cons_succ, List.getD_cons_succ]
    exact this
def OwnT (B : Nat) (w : World) (v : Value) (K : List (Int × Option Addr × Nat × Nat)) : Prop := w.ownsRow B 24 2 v K.length (UT K)
theorem OwnT.nil (B : Nat) (w : World) : OwnT B w (.slice none 0 0) [] := ⟨rfl, .inl ⟨rfl, rfl⟩⟩
theorem OwnT.same {B : Nat} {w w' : World} {v : Value} {K : List (Int × Option Addr × Nat × Nat)} (h : OwnT B w v K) (k : ∀ b, v.ownBlock = some b → w'.heap[b]? = w.heap[b]?) : OwnT B w' v K := by
  refine ⟨h.1, ?_⟩
  rcases h.2 with h2 | ⟨g, cap, cur, hv, hg, hh, r⟩
  · exact .inl h2
  · exact .inr ⟨g, cap, cur, hv, hg, by rw [k g (by rw [hv]; rfl)]; exact hh, r⟩
theorem OwnT.block {B : Nat} {w : World} {v : Value} {K : List (Int × Option Addr × Nat × Nat)} (h : OwnT B w v K) {b : Nat} (hb : v.ownBlock = some b) : B ≤ b ∧ ∃ cur, w.heap[b]? = some (.cells cur 24 (0, 0)) := by
  rcases h.2 with ⟨h1, _⟩ | ⟨g, cap, cur, hv, hg, hh, r⟩
  · rw [h1] at hb; cases hb
  · rw [hv] at hb
    have hb : some g = some b := hb
    simp only [Option.some.injEq] at hb
    subst hb
    exact ⟨hg, cur, hh⟩
theorem OwnT.keep {B : Nat} {w w' : World} {v : Value} {K : List (Int × Option Addr × Nat × Nat)} (h : OwnT B w v K) (k : Keep w w') : OwnT B w' v K :=
  h.same (fun b hb => by obtain ⟨_, cur, hh⟩ := h.block hb; exact k.block b (Array.getElem?_eq_some_iff.1 hh).1)
theorem OwnT.shape {B : Nat} {w : World} {v : Value} {K : List (Int × Option Addr × Nat × Nat)} (h : OwnT B w v K) : ∃ a c, v = .slice a K.length c ∧ K.length ≤ c ∧ ∀ j, j < K.length → ∃ b, a = some ⟨b, 0, none⟩ ∧ ∀ i u, i < 2 → (UT [K.getD j tt0])[i]? = some u → w.cell? ⟨b, j * 2 + i, none⟩ = some u := by
  rcases h.2 with ⟨h1, h2⟩ | ⟨g, cap, cur, hv, hg, hh, h1, h2, h3, h4⟩
  · exact ⟨none, 0, by rw [h1, h2], by omega, fun j hj => by omega⟩
  · refine ⟨some ⟨g, 0, none⟩, cap, hv, h1, ?_⟩
    intro j hj
    refine ⟨g, rfl, ?_⟩
    intro i u hi hu
    have e1 : cur.toList[j * 2 + i]? = (UT K)[j * 2 + i]? := by rw [← h4, List.getElem?_take, if_pos (by omega)]
    rw [cell_of_row w g _ cur 24 (0, 0) hh, ← hu, ← UT_get K j i hj hi, ← e1]; simp
theorem i24 : (Try.prog.info? 24).map (fun i => (i.zero, i.size, i.bytes)) = some (some (.agg #[.int .i64 0, .slice none 0 0]), 2, 32) := by kernel_rfl
theorem appT_sep (B : Nat) (w : World) (ty : Nat) (v : Value) (l : List (Int × Option Addr × Nat × Nat)) (y : Int × Option Addr × Nat × Nat) (hown : OwnT B w v l) (hB : B ≤ w.heap.size) (ad : Addr) (c : Nat) (hnews : ∀ j u, (UT [y])[j]? = some u → w.cell? (ad.add j) = some u) (hlen : l.length + 1 ≤ 4398046511104) :
    ∃ v' w', (Builtin.append_ #[50, 50] ty #[v, .slice (some ad) 1 c]).run Try.prog w = .ok v' w' ∧ OwnT B w' v' (l ++ [y]) ∧ w.grownBy w' v.ownBlock ∧ (v'.ownBlock = v.ownBlock ∨ v'.ownBlock = some w.heap.size) := by
  obtain ⟨i0, hi, hz0, hz1, hz2⟩ := info_parts i24
  have h1 : ∀ u ∈ UT [y], u.oneCell' = true := UT_one _
  have hl : (UT [y]).length = 1 * 2 := by rw [UT_length]; rfl
  obtain ⟨v', w', hr, h2, h3, -⟩ := run_append_own (P := Try.prog) w B 50 ty 24 i0 _ 2 32 Try.underlying50 hi hz0 hz1 hz2 rfl (by decide) v _ _ hown ad 1 c (UT [y]) hl hnews h1 (by simp only [maxLen]; omega) (by omega) hB
  refine ⟨v', w', hr, ?_, h3, ?_⟩
  · unfold OwnT; rw [List.length_append, UT_append]; exact h2
  rcases hown.2 with ⟨rfl, hn⟩ | ⟨g, cap, cur, rfl, hbg, hg, hnc, hcm, hcs, htake⟩
  · have e := run_append_nil (P := Try.prog) w 50 ty 24 i0 _ Try.underlying50 hi hz0 ad 1 c (UT [y]) (by rw [hz1]; exact hl) hnews (by omega) (by omega) (by rw [hz2]; omega)
    rw [hr] at e
    simp only [Result.ok.injEq] at e
    rw [e.1]
    exact .inr rfl
  · by_cases hroom : l.length + 1 ≤ cap
    · have e := run_append_room (P := Try.prog) w 50 ty 24 i0 Try.underlying50 hi g l.length cap cur hg ad 1 c (UT [y]) (by rw [hz1]; exact hl) hnews h1 hroom (by rw [hz1, UT_length]; simp; omega)
      rw [hr] at e
      simp only [Result.ok.injEq] at e
      rw [e.1]
      exact .inl rfl
    · have holds : ∀ j u, (UT l)[j]? = some u → w.cell? ((⟨g, 0, none⟩ : Addr).add j) = some u := World.ownsRow.cells (v := .slice (some ⟨g, 0, none⟩) l.length cap) hown (g := g) rfl
      have e := run_append_grow (P := Try.prog) w 50 ty 24 i0 _ Try.underlying50 hi hz0 ⟨g, 0, none⟩ l.length cap (UT l) (by rw [hz1, UT_length]) holds ad 1 c (UT [y]) (by rw [hz1]; exact hl) hnews (by omega) (by omega) (growslice_fits (by omega) (by rw [hz2]; omega))
      rw [hr] at e
      simp only [Result.ok.injEq] at e
      rw [e.1]
      exact .inr rfl
/-- append(l, tree). -/
theorem wpList_appT (B : Nat) (w : World) {ops : Array Oper} {rest : List Oper} {o : Oper} {a : Act} {Q : Exit → Act → World → Prop} (hgd : o.guard = none) (s x : Operand)
    (hop : o.op = .call { callee := .builtin .append, args := #[s, x], argTypes := #[50, 50] }) (l : List (Int × Option Addr × Nat × Nat)) (y : Int × Option Addr × Nat × Nat) (v : Value) (hs : a.eval s = v) (hown : OwnT B w v l) (hB : B ≤ w.heap.size) (ad : Addr) (c : Nat) (hx : a.eval x = .slice (some ad) 1 c)
    (hnews : ∀ j u, (UT [y])[j]? = some u → w.cell? (ad.add j) = some u) (hlen : l.length + 1 ≤ 4398046511104)
    (hK : ∀ v' w', OwnT B w' v' (l ++ [y]) → w.grownBy w' v.ownBlock → (v'.ownBlock = v.ownBlock ∨ v'.ownBlock = some w.heap.size) → wpList Try.prog ops Q rest (a.put o.dst v') w') :
    wpList Try.prog ops Q (o :: rest) a w := by
  refine wpList_plain hgd fun K hK' => ?_
  obtain ⟨v', w', hrun, r1, r2, r3⟩ := appT_sep B w o.type v l y hown hB ad c hnews hlen
  unfold Oper.wp
  simp [execOp, hop, resolve, invoke, builtin, hs, hx, hrun, Result.andThen]
  exact hK' _ _ (hK v' w' r1 r2 r3)
/-- Texts as cells. -/
def US (l : List ByteArray) : List Value := l.map (fun x => Value.string x)
def OwnS (B : Nat) (w : World) (v : Value) (l : List ByteArray) : Prop := w.ownsRow B 9 1 v l.length (US l)
def RdS (w : World) (a : Option Addr) (l : List ByteArray) : Prop :=
  ∀ j, j < l.length → ∃ b o, a = some ⟨b, o, none⟩ ∧ w.cell? ⟨b, o + j, none⟩ = some (.string (l.getD j ByteArray.empty))
theorem RdS.keep {w w' : World} {a : Option Addr} {l : List ByteArray} (h : RdS w a l) (k : Keep w w') : RdS w' a l := by
  intro j hj
  obtain ⟨b, o, e, hc⟩ := h j hj
  exact ⟨b, o, e, k.cell hc⟩
theorem US_get (l : List ByteArray) (j : Nat) (h : j < l.length) : (US l)[j]? = some (.string (l.getD j ByteArray.empty)) := by simp [US, List.getD, h]
theorem OwnS.nil (B : Nat) (w : World) : OwnS B w (.slice none 0 0) [] := ⟨rfl, .inl ⟨rfl, rfl⟩⟩
theorem OwnS.shape {B : Nat} {w : World} {v : Value} {l : List ByteArray} (h : OwnS B w v l) : ∃ a c, v = .slice a l.length c ∧ l.length ≤ c ∧ RdS w a l := by
  rcases h.2 with ⟨h1, h2⟩ | ⟨g, cap, cur, hv, hg, hh, h1, h2, h3, h4⟩
  · exact ⟨none, 0, by rw [h1, h2], by omega, fun j hj => by omega⟩
  · refine ⟨some ⟨g, 0, none⟩, cap, hv, h1, ?_⟩
    intro j hj
    refine ⟨g, 0, rfl, ?_⟩
    have e1 : cur.toList[j]? = (US l)[j]? := by rw [← h4, List.getElem?_take, if_pos (by omega)]
    rw [Nat.zero_add, cell_of_row w g _ cur 9 (0, 0) hh, ← US_get l j hj, ← e1]; simp
theorem i9 : (Try.prog.info? 9).map (fun i => (i.zero, i.size, i.bytes)) = some (some (.string ByteArray.empty), 1, 16) := by kernel_rfl
/-- append(nil, texts...). -/
theorem wpList_copyS {w : World} {ops : Array Oper} {rest : List Oper} {o : Oper} {a : Act} {Q : Exit → Act → World → Prop} (hgd : o.guard = none) (s x : Operand)
    (ho : o.op = .call { callee := .builtin .append, args := #[s, x], argTypes := #[48, 48] }) (l : List ByteArray) (ad : Option Addr) (c : Nat) (hs : a.eval s = .slice none 0 0)
    (hx : a.eval x = .slice ad l.length c) (hr : RdS w ad l) (hlen : l.length ≤ 8796093022208)
    (hK : ∀ v w1, OwnS w.heap.size w1 v l → Keep w w1 → wpList Try.prog ops Q rest (a.put o.dst v) w1) :
    wpList Try.prog ops Q (o :: rest) a w := by
  rcases ad with _ | ad
  · obtain rfl : l = [] := by
      by_cases h : l = []
      · exact h
      · obtain ⟨b, o, e, -⟩ := hr 0 (List.length_pos_iff.2 h); cases e
    refine wpList_plain hgd fun K hK' => ?_
    have hrun : (Builtin.append_ #[48, 48] o.type #[.slice none 0 0, .slice none 0 c]).run Try.prog w = .ok (.slice none 0 0) w := by
      go_simp
    unfold Oper.wp
    simp [execOp, ho, resolve, invoke, builtin, hs, hx, hrun, Result.andThen]
    exact hK' _ _ (hK _ w (OwnS.nil _ _) (Keep.refl w))
  · obtain ⟨i0, hi, hz0, hz1, hz2⟩ := info_parts i9
    refine wpList_append_own _ hgd s x 48 ho w.heap.size 9 i0 _ 1 16 Try.underlying48 hi hz0 hz1 hz2 rfl (by decide) _ _ _ hs (OwnS.nil w.heap.size w) ad l.length c (US l) hx (by simp [US]) ?_ ?_ ?_ ?_ ?_ ?_
    · intro j u hj
      have hjl : j < l.length := by have := (List.getElem?_eq_some_iff.1 hj).1; simpa [US] using this
      rw [US_get l j hjl] at hj
      obtain ⟨b', o', e, hc⟩ := hr j hjl
      simp only [Option.some.injEq] at e
      subst e
      rw [Addr.add_lit, hc, hj]
    · intro u hu; obtain ⟨_, _, rfl⟩ := List.mem_map.1 hu; rfl
    · simp only [maxLen, List.length_nil]; omega
    · simp only [List.length_nil]; omega
    · exact Nat.le_refl _
    · intro v' w1 h1 h2 _
      refine hK v' w1 ?_ ?_
      · unfold OwnS; simpa [US] using h1
      · refine Below.grown (Keep.refl w) h2 (Nat.le_refl _) ?_
        intro k hk'
        cases hk'
/-- append(nil, sums...), whether they are nil or not. -/
theorem wpList_copyB {w : World} {ops : Array Oper} {rest : List Oper} {o : Oper} {a : Act} {Q : Exit → Act → World → Prop} (hgd : o.guard = none) (s x : Operand)
    (ho : o.op = .call { callee := .builtin .append, args := #[s, x], argTypes := #[49, 49] }) (l : List Int) (ad : Option Addr) (c : Nat) (hs : a.eval s = .slice none 0 0)
    (hx : a.eval x = .slice ad l.length c) (hr : RdI w ad l) (hlen : l.length ≤ 17592186044416)
    (hK : ∀ v w1, OwnZ 2 w.heap.size w1 v l → Keep w w1 → wpList Try.prog ops Q rest (a.put o.dst v) w1) :
    wpList Try.prog ops Q (o :: rest) a w := by
  rcases ad with _ | ad
  · obtain rfl : l = [] := by
      by_cases h : l = []
      · exact h
      · obtain ⟨b, o, e, -⟩ := hr 0 (List.length_pos_iff.2 h); cases e
    refine wpList_plain hgd fun K hK' => ?_
    have hrun : (Builtin.append_ #[49, 49] o.type #[.slice none 0 0, .slice none 0 c]).run Try.prog w = .ok (.slice none 0 0) w := by
      go_simp
    unfold Oper.wp
    simp [execOp, ho, resolve, invoke, builtin, hs, hx, hrun, Result.andThen]
    exact hK' _ _ (hK _ w (OwnZ.nil _ _ _) (Keep.refl w))
  · exact wpList_copyZ hgd s x ho l ad c hs hx hr hlen hK
end Go.Proofs.Ytbchinfmdioijaa
