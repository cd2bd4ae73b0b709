import Derived.Test.YtjiflgdbgpegiaaSD2
set_option linter.unusedVariables false
set_option linter.unusedSimpArgs false
namespace Go.Proofs.Ytjiflgdbgpegiaa
open Go.RowKit Go.Shelf
/-- append of some elements to a row of one's own. -/
theorem wpList_appM {S E : Nat} {zv : Value} (hS : Try.prog.underlying S = some (.slice E)) (iE : (Try.prog.info? E).map (fun i => (i.zero, i.size, i.bytes)) = some (some zv, 1, 8)) (hzc : zv.cells.size = 1) (B : Nat) (w : World) {ops : Array Oper} {rest : List Oper} {o : Oper} {a : Act} {Q : Exit → Act → World → Prop} (hgd : o.guard = none) (s x : Operand)
    (hop : o.op = .call { callee := .builtin .append, args := #[s, x], argTypes := #[S, S] }) (n m : Nat) (xs ys : List Value) (v : Value) (hs : a.eval s = v) (hown : w.ownsRow B E 1 v n xs) (hB : B ≤ w.heap.size) (ad : Addr) (c : Nat) (hx : a.eval x = .slice (some ad) m c) (hl : ys.length = m)
    (hnews : ∀ j u, ys[j]? = some u → w.cell? (ad.add j) = some u) (h1 : ∀ u ∈ ys, u.oneCell' = true) (hn : n + m ≤ 17592186044416)
    (hK : ∀ v' w', w'.ownsRow B E 1 v' (n + m) (xs ++ ys) → w.grownBy w' v.ownBlock → wpList Try.prog ops Q rest (a.put o.dst v') w') :
    wpList Try.prog ops Q (o :: rest) a w := by
  refine wpList_plain hgd fun K hK' => ?_
  obtain ⟨i0, hi, hz0, hz1, hz2⟩ := info_parts iE
  obtain ⟨v', w', hrun, r1, r2, -⟩ := run_append_own (P := Try.prog) w B S o.type E i0 _ 1 8 hS hi hz0 hz1 hz2 hzc (by omega) v _ _ hown ad m c ys (by rw [hl, Nat.mul_one]) hnews h1 (by simp only [maxLen]; omega) (by omega) hB
  unfold Oper.wp
  simp [execOp, hop, resolve, invoke, builtin, hs, hx, hrun, Result.andThen]
  exact hK' _ _ (hK v' w' r1 r2)
theorem newsF2 (W : World) (x y : Nat) : ∀ j u, (UF [x, y])[j]? = some u → (W.alloc (Obj.cells #[.float .f64 x, .float .f64 y] 23)).cell? ((⟨W.heap.size, 0, none⟩ : Addr).add j) = some u := by
  intro j u hj
  match j, hj with
  | 0, hj => simp [UF] at hj; subst hj; show (W.alloc _).cell? ⟨W.heap.size, 0, none⟩ = _; rw [cell_of_row _ _ _ _ 23 (0, 0) (heap_alloc_new W _)]; rfl
  | 1, hj => simp [UF] at hj; subst hj; show (W.alloc _).cell? ⟨W.heap.size, 0 + 1, none⟩ = _; rw [cell_of_row _ _ _ _ 23 (0, 0) (heap_alloc_new W _)]; rfl
  | j + 2, hj => simp [UF] at hj
theorem Alk.self {x : Nat} (h : x < 18446744073709551616) : Alk x x := by
  by_cases q : isNaN x
  · exact ⟨h, .inr ⟨q, q⟩⟩
  · exact ⟨h, .inl ⟨rfl, q⟩⟩
/-- A row of numbers of one's own, the first of them. -/
theorem own_arr {w : World} {B n g cap : Nat} {l r : List Nat} (h : w.ownsRow B 23 1 (.slice (some ⟨g, 0, none⟩) n cap) n (UF (l ++ r))) : Arr w g l := by
  rcases h.2 with ⟨h1, _⟩ | ⟨g', cap', cur, hv, hg, hh, r1, r2, r3, r4⟩
  · cases h1
  · injection hv with e1 e2 e3
    injection e1 with e1
    injection e1 with e1
    subst e1
    refine ⟨cur, hh, ?_⟩
    have hn := h.1
    rw [Nat.mul_one, UF_length, List.length_append] at hn
    rw [Nat.mul_one] at r4
    have : (cur.toList.take n).take l.length = (UF (l ++ r)).take l.length := by rw [r4]
    rw [List.take_take, Nat.min_eq_left (by omega)] at this
    rw [this]
    simp [UF, List.take_append_of_le_length]
theorem own_rdv {w : World} {B n g cap : Nat} {l : List Nat} (h : w.ownsRow B 23 1 (.slice (some ⟨g, 0, none⟩) n cap) n (UF l)) : RdV w (some ⟨g, 0, none⟩) l := (own_arr (r := []) (by rw [List.append_nil]; exact h)).rdv
theorem own_cap {w : World} {B E n g cap : Nat} {xs : List Value} (h : w.ownsRow B E 1 (.slice (some ⟨g, 0, none⟩) n cap) n xs) : n ≤ cap := by
  rcases h.2 with ⟨q, _⟩ | ⟨_, _, _, hv, _, _, q, _⟩
  · cases q
  · injection hv with _ _ hv
    omega
set_option maxRecDepth 100000 in
set_option maxHeartbeats 4000000 in
/-- OrderLists. -/
theorem law_lists (hSort : SortC) (p : Option Addr) (c n y : Nat) (l : List Nat) (w : World) (hF : F64 l) (hn : l.length = n) (hl : n ≤ 17592186044414) (hy : y < 18446744073709551616) (hL : RdU w p l) :
    Calls Try.prog 6 #[.slice p n c, .int .u64 (y : Int)] w fun e w' => e = .returned (.bool true) ∧ Keep w w' := by
  have h38 := list_any p c n l w hn hl hL
  have HL : Hid (RdU w p l) := hL
  have HN : Hid (l.length = n) := hn
  have HF : Hid (F64 l) := hF
  have hf := fun x wx => f64from x wx
  have t1 : True := trivial
  have t2 : True := trivial
  have t3 : True := trivial
  have e75 : FloatKind.f64.format.order 4620130267728707584 4620130267728707584 = some .eq := by decide +kernel
  have e85 : FloatKind.f64.format.order 4620974692658839552 4620974692658839552 = some .eq := by decide +kernel
  clear hL hn hF
  have hsf : ∀ x : Nat, x ∈ l → x < 18446744073709551616 := fun x hx => HF.out x hx
  have HSF : Hid (∀ i, i < n → Alk (l.getD i 0) (l.getD i 0)) := fun i hi => Alk.self (HF.out.at i (by rw [HN.out]; exact hi))
  clear hsf
  go_enter Try.func6, Try.ntmps6
  go_wp2_with (first
    | (go_at_call 38; refine h38.mono ?_; rintro e w1 ⟨v1, rfl, o1, k1⟩)
    | (at_builtin; refine wpList_appM Try.underlying62 i23 rfl w.heap.size _ rfl _ _ rfl n 2 (UF l) (UF [4620130267728707584, 4620974692658839552]) _ rfl (own_keep o1 ((Keep.refl _).alloc _)) (k1.alloc (Obj.cells #[.float .f64 4620130267728707584, .float .f64 4620974692658839552] 23)).le ⟨w1.heap.size, 0, none⟩ 2 rfl rfl (newsF2 w1 _ _) (UF_one _) (by omega) ?_; intro v2 w2 o2 g2; have k2 := keep_grown (k1.alloc (Obj.cells #[.float .f64 4620130267728707584, .float .f64 4620974692658839552] 23)) (own_keep o1 ((Keep.refl w1).alloc _)) g2; obtain ⟨g, cap, hve⟩ : ∃ g cap, v2 = .slice (some ⟨g, 0, none⟩) (n + 2) cap := (by obtain ⟨g, cap, cur, hv, _⟩ := Or.resolve_left o2.2 (by rintro ⟨-, q⟩; omega); exact ⟨g, cap, hv⟩); subst hve; have hcap : n + 2 ≤ cap := own_cap o2; have hu : UF l ++ UF [4620130267728707584, 4620974692658839552] = UF (l ++ [4620130267728707584, 4620974692658839552]) := (by simp [UF]); rw [hu] at o2; have hA2 : Hid (Arr w2 g l) := own_arr o2; have hO2 : Hid (Arr w2 g (l ++ [4620130267728707584, 4620974692658839552])) := own_arr (r := []) (by rw [List.append_nil]; exact o2); have K2 : Hid (Keep w w2) := k2; clear o2 o1 g2 k1 k2 hu)
    | (go_at_call 40; refine (Sorted_any g cap n l w2 HF.out HN.out (by omega) hA2.out).mono ?_; rintro e w3 ⟨M, m1, m2, m3, rfl, m4, k3, z3⟩; have hM3 : Hid (M.length = n ∧ srt kI M ∧ eqv kI M l) := ⟨m1, m2, m3⟩; have hA3 : Hid (Arr w3 w2.heap.size M) := m4; have K3 : Hid (Keep w2 w3) := k3; clear m1 m2 m3 m4 k3 z3)
    | (go_at_call 41; refine (rSorted_any p c n l w3 HF.out HN.out hl (HL.out.keep (K2.out.trans K3.out))).mono ?_; rintro e w4 ⟨v4, M', rfl, n1, n2, n3, n4, k4⟩; obtain ⟨q4, c4, rfl, R4⟩ := own_rdu n1 n4; obtain rfl : M' = M := one n2 hM3.out.2.1 (n3.trans hM3.out.2.2.symm); have hR4 : Hid (RdU w4 q4 M') := R4; have K4 : Hid (Keep w3 w4) := k4; clear n1 n2 n3 n4 R4 k4)
    | (go_at_call 39; clear t1; refine (are_any (some ⟨w2.heap.size, 0, none⟩) q4 n c4 n M' M' w4 hM3.out.1 hM3.out.1 (by omega) (fun i hi => Alk.self (HF.out _ (hM3.out.2.2.mem (by have := hM3.out.1; simp [List.getD, show i < M'.length by omega])))) (Arr.rdv (hA3.out.keep K4.out)) hR4.out).mono ?_; rintro e w5 ⟨rfl, d5, hw5⟩; have K5 : Hid (Keep w4 w5) := (by rw [hw5]; exact Keep.drewN _ _); clear hw5; have K25 : Hid (Keep w2 w5) := (K3.out.trans K4.out).trans K5.out)
    | (go_at_call 42; refine (Distinct_of hSort (some ⟨g, 0, none⟩) cap n l w5 HF.out HN.out hl (Arr.rdv (hA2.out.keep K25.out))).mono ?_; rintro e w6 ⟨g6, c6, D, rfl, d6, o6, k6⟩; have K6 : Hid (Keep w5 w6) := k6; have hR6 : Hid (RdV w6 (some ⟨g6, 0, none⟩) D) := own_rdv o6; have hD6 : Hid (Dst l D) := d6; clear k6 o6 d6)
    | (go_at_call 43; refine (rDistinct_any p c n l w6 HF.out HN.out hl (HL.out.keep ((K2.out.trans K25.out).trans K6.out))).mono ?_; rintro e w7 ⟨v7, D', rfl, d7, o7, k7⟩; obtain ⟨q7, c7, rfl, R7⟩ := own_rdu rfl o7; obtain rfl : D' = D := d7.one hD6.out (fun _ => Iff.rfl); have hR7 : Hid (RdU w7 q7 D') := R7; have K7 : Hid (Keep w6 w7) := k7; clear d7 o7 k7 R7)
    | (go_at_call 39; clear t2; refine (are_any (some ⟨g6, 0, none⟩) q7 c6 c7 D'.length D' D' w7 rfl rfl (by have := hD6.out.len; have := HN.out; omega) (fun i hi => Alk.self (hD6.out.f64.at i hi)) (fun i hi => by obtain ⟨g, o, e, c⟩ := hR6.out i hi; exact ⟨g, o, e, K7.out.cell c⟩) hR7.out).mono ?_; rintro e w8 ⟨rfl, d8, hw8⟩; have K8 : Hid (Keep w7 w8) := (by rw [hw8]; exact Keep.drewN _ _); clear hw8; have K28 : Hid (Keep w2 w8) := ((K25.out.trans K6.out).trans K7.out).trans K8.out)
    | (go_at_call 44; refine (Below_any g cap n y l w8 HF.out HN.out (by omega) hy (hA2.out.keep K28.out)).mono ?_; rintro e w9 ⟨rfl, hw9⟩; have K29 : Hid (Keep w2 w9) := (by rw [hw9]; exact K28.out); clear hw9)
    | (go_at_call 45; refine (rBelow_any p c n y l w9 HF.out HN.out (by omega) hy (HL.out.keep (K2.out.trans K29.out))).mono ?_; rintro e w10 ⟨rfl, hw10⟩; have K210 : Hid (Keep w2 w10) := (by rw [hw10]; exact K29.out); clear hw10)
    | (go_at_call 39; clear t3; refine (are_any (some ⟨g, 0, none⟩) p cap c n l l w10 HN.out HN.out (by omega) HSF.out (Arr.rdv (hA2.out.keep K210.out)) (HL.out.keep (K2.out.trans K210.out))).mono ?_; rintro e w11 ⟨rfl, d11, hw11⟩; have K211 : Hid (Keep w2 w11) := (by rw [hw11]; exact K210.out.trans (Keep.drewN _ _)); clear hw11; have c7 : w11.cell? ⟨g, n, none⟩ = some (.float .f64 4620130267728707584) := (by have := K211.out.cell (hO2.out.cell (j := n) (by have := HN.out; simp; omega)); rw [getD_right 0 l _ (by have := HN.out; omega), HN.out, Nat.sub_self] at this; exact this); have c8 : w11.cell? ⟨g, n + 1, none⟩ = some (.float .f64 4620974692658839552) := (by have := K211.out.cell (hO2.out.cell (j := n + 1) (by have := HN.out; simp; omega)); rw [getD_right 0 l _ (by have := HN.out; omega), HN.out, show n + 1 - n = 1 by omega] at this; exact this)))
  go_ret
  exact ⟨rfl, K2.out.trans K211.out⟩
end Go.Proofs.Ytjiflgdbgpegiaa
