import Derived.Test.YtmkanofeencgpaaDoorV4
set_option linter.unusedVariables false
set_option linter.unusedSimpArgs false
namespace Go.Proofs.YtmkanofeencgpaaDoor
open Go.RowKit Go.Shelf
attribute [local go_sem] run_store_func run_store_float
/-- A natural in a block of the call's own. -/
def NatO (B : Nat) (w : World) (v : Value) (n : Nat) : Prop := ∃ l, Li.Res B w v l ∧ Lb.Lim l ∧ Lb.Nrm l ∧ Lb.val l = n
theorem NatO.keep {B : Nat} {w w' : World} {v : Value} {n : Nat} (h : NatO B w v n) (k : Keep w w') : NatO B w' v n := by
  obtain ⟨l, h1, h2⟩ := h
  exact ⟨l, h1.keep k, h2⟩
theorem NatO.nv {B : Nat} {w : World} {v : Value} {n : Nat} (h : NatO B w v n) : NatV w v n := by
  obtain ⟨l, h1, h2⟩ := h
  obtain ⟨a, c, e, hc, hr⟩ := h1.shape
  exact ⟨a, c, l, e, hc, hr, h2⟩
theorem From_no (n B : Nat) (w : World) (hn : n < 18446744073709551616) (hB : B ≤ w.heap.size) : Calls Tryd.prog 36 #[.int .u64 (n : Nat)] w fun e w' => ∃ v, e = .returned v ∧ NatO B w' v n ∧ Keep w w' := by
  refine (Li.From_any n w hn).mono ?_
  rintro e w' ⟨v, l, rfl, hR, h1, h2, h3, k⟩
  exact ⟨v, rfl, ⟨l, hR.mono hB, h1, h2, h3⟩, k⟩
theorem Add_no (x y : Nat) (vx vy : Value) (B : Nat) (w : World) (hB : B ≤ w.heap.size) (hx : NatV w vx x) (hy : NatV w vy y) (hbx : x < 340282366920938463463374607431768211456) (hby : y < 340282366920938463463374607431768211456) : Calls Tryd.prog 38 #[vx, vy] w fun e w' => ∃ v, e = .returned v ∧ NatO B w' v (x + y) ∧ Keep w w' := by
  obtain ⟨a, c, l, rfl, h1, h2, h3, h4, rfl⟩ := hx
  obtain ⟨a', c', l', rfl, h1', h2', h3', h4', rfl⟩ := hy
  have q1 := nat_len h4 hbx
  have q2 := nat_len h4' hby
  refine (Li.Add_any a a' c c' l l' w h1 h1' (by omega) (by omega) h2 h2' h3 h3').mono ?_
  rintro e w' ⟨v, rfl, ⟨m, hR, m1, m2, m3⟩, k⟩
  exact ⟨v, rfl, ⟨m, hR.mono hB, m1, m2, m3⟩, k⟩
set_option maxRecDepth 100000 in
set_option maxHeartbeats 2000000 in
theorem Room_own (nm : ByteArray) (fa : Option Addr) (Fn cf : Nat) (N : Int) (ba : Option Addr) (base : List Int) (cb : Nat) (ta : Option Addr) (ts : List (Int × List Nd)) (ct : Nat) (o : Nat) (w : World) (ho : o < base.length) (hbl : base.length ≤ 17592186044416) (hb : RdI w ba base) (hbb : ∀ x ∈ base, -9223372036854775808 ≤ x ∧ x ≤ 9223372036854775807) (htl : ts.length ≤ 4398046511104) (hts : ∀ j, j < ts.length → (ts.getD j (0, [])).2.length ≤ 1759218604441) (ht : RdT w ta ts) :
    Calls Tryd.prog 14 #[.agg (ev nm fa Fn cf N ba base.length cb ta ts.length ct), .int .i64 (o : Int)] w fun e w' => ∃ v, e = .returned (.tuple #[v, .int .i64 0]) ∧ NatO w.heap.size w' v (rm base ts o) ∧ rm base ts o ≤ 9223372036854775808 * (4398046511104 + 1) ∧ Keep w w' := by
  have HR : Hid (rm base ts o = rmF (o : Int) ts ts.length 0 (base.getD o 0).natAbs) := rfl
  generalize rm base ts o = G at HR ⊢
  have hbo := hbb (base.getD o 0) (by simp [List.getD, ho])
  obtain ⟨b0, o0, rfl, x0⟩ := hb o ho
  have hzb : (base.getD o 0).natAbs ≤ 9223372036854775808 := by omega
  obtain ⟨w1, hw1, k1, t1, s1⟩ := boxed w (ev nm fa Fn cf N (some ⟨b0, o0, none⟩) base.length cb ta ts.length ct) 26
  obtain ⟨-, -, -, c3, c4⟩ := cells5 t1
  have x1 := k1.cell x0
  generalize base.getD o 0 = z at hbo x1 HR hzb
  have hAm := amount_any z hbo w1
  generalize z.natAbs = za at hAm HR hzb
  have hFr := From_no za w.heap.size w1 (by omega) (by omega)
  have hl1 : decide ((o : Int) < 0) = false := decide_eq_false (by omega)
  have hl2 : decide ((base.length : Int) ≤ (o : Int)) = false := decide_eq_false (by omega)
  have hoc : (o : Int) < (base.length : Int) := by omega
  clear hbo x0 hbb
  go_enter Tryd.func14, Tryd.ntmps14
  go_wp2_with (first | rw [hw1] | (go_at_call 37; refine hAm.mono ?_; rintro e wx ⟨rfl, hx⟩; rw [hx]; clear hx wx) | (go_at_call 36; refine hFr.mono ?_; rintro e w2 ⟨v2, rfl, N2, k2⟩; have c4' := k2.cell c4; have c3' := k2.cell c3))
  clear c3 c4 c3' c4'
  go_loopw [6, 28] (fun v i wr => ∃ k s : Nat, i = .int .i64 (k : Int) ∧ k ≤ ts.length ∧ s ≤ 9223372036854775808 * (k + 1) ∧ NatO w.heap.size wr v s ∧ Hid (G = rmF (o : Int) ts (ts.length - k) k s) ∧ Keep w2 wr) (fun v i wr => ts.length - (intOf i).toNat)
  case atStart => exact ⟨0, za, rfl, by omega, by omega, N2, HR, Keep.refl _⟩
  case round =>
    obtain ⟨k, s, rfl, hk, hs, Nv, H, kr⟩ := hrel
    by_cases hlt : k < ts.length
    · have hltc : (k : Int) < (ts.length : Int) := by omega
      have hl := hts k hlt
      have kwr := k1.trans (k2.trans kr)
      obtain ⟨b, p, na, nc, rfl, y0, y1, hrn, hcp⟩ := (ht.keep kwr) k hlt
      have H1 : Hid (rmF (o : Int) ts (ts.length - k) k s = rmF (o : Int) ts (ts.length - (k + 1)) (k + 1) (if (ts.getD k (0, [])).1 = (o : Int) then s + lg (ts.getD k (0, [])).2 else s)) := by
        rw [show ts.length - k = (ts.length - (k + 1)) + 1 by omega, rmF]; rfl
      have HK : Hid (k < ts.length) := hlt
      clear hlt hcp
      generalize ts.getD k (0, []) = tk at y0 y1 hrn H1 hl
      obtain ⟨out, L⟩ := tk
      simp only at y0 y1 hrn H1 hl
      obtain ⟨w3, hw3, k3, t3, s3⟩ := boxed wr #[.int .i64 out, .slice na L.length nc] 43
      obtain ⟨d0, d1, -, -⟩ := cells2 t3
      by_cases he : out = (o : Int)
      · have hec : (out == (o : Int)) = true := by rw [beq_iff_eq]; exact he
        have H2 : Hid (G = rmF (o : Int) ts (ts.length - (k + 1)) (k + 1) (s + lg L)) := by unfold Hid; rw [H.out, H1.out, if_pos he]
        have hLg := Largest_any out na nc L w3 hl (hrn.keep k3)
        clear he H1
        generalize lg L = g at hLg H2
        go_wp2_with (first
          | (go_at_call 17; refine hLg.mono ?_; rintro e w4 ⟨rfl, hg, k4⟩
             have hF2 := From_nv g w4 (by omega))
          | (go_at_call 36; refine hF2.mono ?_; rintro e w5 ⟨v5, rfl, N5, k5⟩
             have k35 := k3.trans (k4.trans k5)
             have hAd := Add_no s g _ v5 w.heap.size w5 (by have := k1.le; have := k2.le; have := kr.le; have := k35.le; omega) (Nv.keep k35).nv N5 (by omega) (by omega))
          | (go_at_call 38; refine hAd.mono ?_; rintro e w6 ⟨v6, rfl, N6, k6⟩))
        go_roundw
        case rel => exact ⟨k + 1, s + g, by go_num, by have := HK.out; omega, by omega, N6, H2, kr.trans (k35.trans k6)⟩
        case measure => have := HK.out; simp [intOf]; omega
      · have hec : (out == (o : Int)) = false := by rw [beq_eq_false_iff_ne]; exact he
        have H2 : Hid (G = rmF (o : Int) ts (ts.length - (k + 1)) (k + 1) s) := by unfold Hid; rw [H.out, H1.out, if_neg he]
        clear he H1
        go_wp2_with fail
        go_roundw
        case rel => exact ⟨k + 1, s, by go_num, by have := HK.out; omega, by omega, Nv.keep k3, H2, kr.trans k3⟩
        case measure => have := HK.out; simp [intOf]; omega
    · have hltc : ¬ (k : Int) < (ts.length : Int) := by omega
      have H1 : Hid (G = s) := by unfold Hid; rw [H.out, show ts.length - k = 0 by omega]; rfl
      clear hlt
      go_wp2_with fail
      go_ret2
      refine ⟨_, rfl, by rw [H1.out]; exact Nv, by rw [H1.out]; omega, k1.trans (k2.trans kr)⟩
end Go.Proofs.YtmkanofeencgpaaDoor
set_option linter.unusedVariables false
set_option linter.unusedSimpArgs false
namespace Go.Proofs.YtmkanofeencgpaaDoor
open Go.RowKit Go.Shelf
/-- append(nil, l...), l nil or not. -/
theorem wpList_copyU {w : World} {ops : Array Oper} {rest : List Oper} {o : Oper} {a : Act} {Q : Exit → Act → World → Prop} (hgd : o.guard = none) (s x : Operand)
    (ho : o.op = .call { callee := .builtin .append, args := #[s, x], argTypes := #[34, 34] }) (l : List Nat) (ad : Option Addr) (c : Nat) (hs : a.eval s = .slice none 0 0)
    (hx : a.eval x = .slice ad l.length c) (hr : Li.Rd w ad l) (hlen : l.length ≤ 1000000)
    (hK : ∀ v w1, Li.Own w.heap.size w1 v l → Keep w w1 → wpList Tryd.prog ops Q rest (a.put o.dst v) w1) :
    wpList Tryd.prog ops Q (o :: rest) a w := by
  rcases ad with _ | ad
  · obtain rfl : l = [] := by
      by_cases h : l = []
      · exact h
      · obtain ⟨b, o, e, -⟩ := hr 0 (List.length_pos_iff.2 h); cases e
    refine wpList_plain hgd fun K hK' => ?_
    have hrun : (Builtin.append_ #[34, 34] o.type #[.slice none 0 0, .slice none 0 c]).run Tryd.prog w = .ok (.slice none 0 0) w := by
      go_simp
    unfold Oper.wp
    simp [execOp, ho, resolve, invoke, builtin, hs, hx, hrun, Result.andThen]
    exact hK' _ _ (hK _ w ⟨rfl, .inl ⟨rfl, rfl⟩⟩ (Keep.refl w))
  · obtain ⟨i0, hi, hz0, hz1, hz2⟩ := info_parts Li.i62
    refine wpList_append_own _ hgd s x 34 ho w.heap.size 59 i0 (.int .u32 0) 1 4 Tryd.underlying34 hi hz0 hz1 hz2 rfl (by decide) _ _ _ hs (show w.ownsRow w.heap.size 59 1 (.slice none 0 0) 0 [] from ⟨rfl, .inl ⟨rfl, rfl⟩⟩) ad l.length c (Li.U l) hx (by simp [Li.U]) ?_ (Li.U_one l) ?_ ?_ ?_ ?_
    · intro j u hj
      have hjl : j < l.length := by have := (List.getElem?_eq_some_iff.1 hj).1; simpa [Li.U] using this
      rw [Li.U_get l j hjl] at hj
      obtain ⟨b', o', e, hc⟩ := hr j hjl
      simp only [Option.some.injEq] at e
      subst e
      rw [Addr.add_lit, hc, hj]
    · simp only [maxLen]; omega
    · omega
    · exact Nat.le_refl _
    · intro v' w1 h1 h2 _
      refine hK v' w1 ?_ ?_
      · unfold Li.Own; simpa [Li.U] using h1
      · refine Below.grown (Keep.refl w) h2 (Nat.le_refl _) ?_
        intro k hk'
        cases hk'
/-- A row of one's own, whatever it holds. -/
def AO (B C : Nat) (w : World) (v : Value) (n : Nat) : Prop := (v = .slice none 0 0 ∧ n = 0) ∨ ∃ g r, v = .slice (some ⟨g, 0, none⟩) n (r : List Nat).length ∧ B ≤ g ∧ g < C ∧ Li.Row w g r ∧ n ≤ r.length
theorem AO.of {B C : Nat} {w : World} {v : Value} {l : List Nat} (h : Li.Res B w v l) (hC : w.heap.size ≤ C) : AO B C w v l.length := by
  rcases h with ⟨h1, h2⟩ | ⟨g, r, e, hb, hr, h1, h2⟩
  · exact .inl ⟨h1, by rw [h2]; rfl⟩
  · exact .inr ⟨g, r, e, hb, Nat.lt_of_lt_of_le (lt_of_at hr) hC, hr, h1⟩
theorem AO.same {B C : Nat} {w w' : World} {v : Value} {n : Nat} (h : AO B C w v n) (e : ∀ i, B ≤ i → i < C → w'.heap[i]? = w.heap[i]?) : AO B C w' v n := by
  rcases h with h | ⟨g, r, e1, hb, hc, hr, h1⟩
  · exact .inl h
  · exact .inr ⟨g, r, e1, hb, hc, (e g hb hc).trans hr, h1⟩
end Go.Proofs.YtmkanofeencgpaaDoor
set_option linter.unusedVariables false
set_option linter.unusedSimpArgs false
namespace Go.Proofs.YtmkanofeencgpaaDoor
open Go.RowKit Go.Shelf
theorem AO.own {B C : Nat} {w : World} {g n : Nat} {r : List Nat} (hb : B ≤ g) (hr : Li.Row w g r) (hn : n ≤ r.length) (hm : r.length ≤ 9223372036854775807) : Li.Own B w (.slice (some ⟨g, 0, none⟩) n r.length) (r.take n) ∧ (r.take n).length = n := by
  have hl : (r.take n).length = n := by simp; omega
  refine ⟨⟨by simp [Li.U], .inr ⟨g, r.length, (Li.U r).toArray, by rw [hl], hb, hr, by rw [hl]; exact hn, by simp only [maxLen]; omega, by simp [Li.U], ?_⟩⟩, hl⟩
  rw [hl, Nat.mul_one]
  simp [Li.U, List.map_take]
theorem appU_ao (B C : Nat) (w : World) (ty : Nat) (v : Value) (n : Nat) (h : AO B C w v n) (hn : n ≤ 100) (hB : B ≤ w.heap.size) (ad : Addr) (y : Nat) (hc : w.cell? ad = some (.int .u32 (y : Int))) :
    ∃ g c w', (Builtin.append_ #[34, 34] ty #[v, .slice (some ad) 1 1]).run Tryd.prog w = .ok (.slice (some ⟨g, 0, none⟩) (n + 1) c) w' ∧ w'.cell? ⟨g, n, none⟩ = some (.int .u32 (y : Int)) ∧ w.grownBy w' v.ownBlock := by
  obtain ⟨i0, hi, hz0, hz1, hz2⟩ := info_parts Li.i62
  have h1 : ∀ u ∈ Li.U [y], u.oneCell' = true := Li.U_one _
  have hl : (Li.U [y]).length = 1 * 1 := rfl
  have hnews : ∀ j u, (Li.U [y])[j]? = some u → w.cell? (ad.add j) = some u := by
    intro j u hj
    match j, hj with
    | 0, hj =>
      simp [Li.U] at hj
      subst hj
      rw [show ad.add 0 = ad from by cases ad; rfl]; exact hc
    | j + 1, hj => simp [Li.U] at hj
  have viaOwn : ∀ l : List Nat, l.length = n → Li.Own B w v l → ∃ g c w', (Builtin.append_ #[34, 34] ty #[v, .slice (some ad) 1 1]).run Tryd.prog w = .ok (.slice (some ⟨g, 0, none⟩) (n + 1) c) w' ∧ w'.cell? ⟨g, n, none⟩ = some (.int .u32 (y : Int)) ∧ w.grownBy w' v.ownBlock := by
    intro l hll hown
    obtain ⟨v', w', hr, h2, h3, -⟩ := run_append_own (P := Tryd.prog) w B 34 ty 59 i0 _ 1 4 Tryd.underlying34 hi hz0 hz1 hz2 rfl (by decide) v _ _ hown ad 1 1 (Li.U [y]) hl hnews h1 (by simp only [maxLen]; omega) (by omega) hB
    have hO : Li.Own B w' v' (l ++ [y]) := by unfold Li.Own; simpa [Li.U] using h2
    rcases hO.2 with ⟨-, q2⟩ | ⟨g, cap, cur, hv, -, hh, p1, p2, p3, p4⟩
    · simp at q2
    · refine ⟨g, cap, w', ?_, ?_, h3⟩
      · rw [hr, hv]; simp [hll]
      · rw [cell_of_row w' g n cur 59 (0, 0) hh]
        have e : cur.toList[n]? = (Li.U (l ++ [y]))[n]? := by rw [← p4, List.getElem?_take, if_pos (by simp; omega)]
        rw [← Array.getElem?_toList, e]
        simp [Li.U, hll]
  rcases h with ⟨rfl, rfl⟩ | ⟨g, r, rfl, hb, hcc, hr, hnr⟩
  · exact viaOwn [] rfl ⟨rfl, .inl ⟨rfl, rfl⟩⟩
  · by_cases hm : r.length ≤ 9223372036854775807
    · obtain ⟨o1, o2⟩ := AO.own (C := C) hb hr hnr hm
      exact viaOwn _ o2 o1
    · have e := run_append_room (P := Tryd.prog) w 34 ty 59 i0 Tryd.underlying34 hi g n r.length _ hr ad 1 1 (Li.U [y]) (by rw [hz1]; exact hl) hnews h1 (by omega) (by rw [hz1]; simp [Li.U]; omega)
      refine ⟨g, r.length, _, e, ?_, ?_⟩
      · rw [cell_of_row _ g n _ 59 (0, 0) (setRow_heap w g _ _ 59 (0, 0) hr)]
        rw [hz1, Nat.mul_one]
        rw [← Array.getElem?_toList]
        have hl1 : ((Li.U r).take n).length = n := by simp [Li.U]; omega
        simp only [List.append_assoc]
        rw [List.getElem?_append_right (by simpa using Nat.le_of_eq hl1)]
        simp [Li.U, hl1]
        rw [Nat.min_eq_left hnr, Nat.sub_self]
        rfl
      · exact ⟨rfl, rfl, rfl, by simp, fun k hk hne => setRow_other w g k _ (fun e => hne (by rw [e]; rfl))⟩
/-- append(a, 78), a a row of one's own, at the operation. -/
theorem wpList_appU (B C : Nat) {wr : World} {ops : Array Oper} {rest : List Oper} {o : Oper} {a : Act} {Q : Exit → Act → World → Prop} (hgd : o.guard = none) (s x : Operand)
    (hop : o.op = .call { callee := .builtin .append, args := #[s, x], argTypes := #[34, 34] }) (n : Nat) (v : Value) (hs : a.eval s = v) (hao : AO B C wr v n) (hn : n ≤ 100) (hB : B ≤ wr.heap.size)
    (hx : a.eval x = .slice (some ⟨wr.heap.size, 0, none⟩) 1 1)
    (hK : ∀ g c w', w'.cell? ⟨g, n, none⟩ = some (.int .u32 78) → (wr.alloc (.cells #[.int .u32 78] 59)).grownBy w' v.ownBlock → wpList Tryd.prog ops Q rest (a.put o.dst (.slice (some ⟨g, 0, none⟩) (n + 1) c)) w') :
    wpList Tryd.prog ops Q (o :: rest) a (wr.alloc (.cells #[.int .u32 78] 59)) := by
  refine wpList_plain hgd fun K hK' => ?_
  have hao' : AO B C (wr.alloc (.cells #[.int .u32 78] 59)) v n := by
    rcases hao with h | ⟨g, r, e1, hb, hc, hr, h1⟩
    · exact .inl h
    · exact .inr ⟨g, r, e1, hb, hc, ((Keep.refl wr).alloc (.cells #[.int .u32 78] 59)).at hr, h1⟩
  obtain ⟨g, c, w', hrun, r1, r2⟩ := appU_ao B C (wr.alloc (.cells #[.int .u32 78] 59)) o.type v n hao' hn (by simp; omega) ⟨wr.heap.size, 0, none⟩ 78 (by rw [cell_of_row _ _ 0 _ 59 (0, 0) (heap_alloc_new wr _)]; rfl)
  unfold Oper.wp
  simp [execOp, hop, resolve, invoke, builtin, hs, hx, hrun, Result.andThen]
  exact hK' _ _ (hK g c w' r1 r2)
end Go.Proofs.YtmkanofeencgpaaDoor
set_option linter.unusedVariables false
set_option linter.unusedSimpArgs false
namespace Go.Proofs.YtmkanofeencgpaaDoor
open Go.RowKit Go.Shelf
/-- Limbs that can be read, in blocks of a run. -/
def RdQ (B C : Nat) (w : World) (a : Option Addr) (l : List Nat) : Prop := ∀ j, j < l.length → ∃ b o, a = some ⟨b, o, none⟩ ∧ B ≤ b ∧ b < C ∧ w.cell? ⟨b, o + j, none⟩ = some (.int .u32 (l.getD j 0 : Nat))
theorem RdQ.same {B C : Nat} {w w' : World} {a : Option Addr} {l : List Nat} (h : RdQ B C w a l) (e : ∀ i, B ≤ i → i < C → w'.heap[i]? = w.heap[i]?) : RdQ B C w' a l := by
  intro j hj
  obtain ⟨b, o, h1, h2, h3, h4⟩ := h j hj
  exact ⟨b, o, h1, h2, h3, by rw [World.cell?_of_block (w := w) (e b h2 h3)]; exact h4⟩
theorem RdQ.rd {B C : Nat} {w : World} {a : Option Addr} {l : List Nat} (h : RdQ B C w a l) : Li.Rd w a l := by
  intro j hj
  obtain ⟨b, o, h1, h2, h3, h4⟩ := h j hj
  exact ⟨b, o, h1, h4⟩
theorem rdB_res {B : Nat} {w : World} {v : Value} {l : List Nat} (h : Li.Res B w v l) : ∃ a c, v = .slice a l.length c ∧ RdQ B w.heap.size w a l := by
  rcases h with ⟨rfl, rfl⟩ | ⟨g, r, rfl, hb, hr, h1, h2⟩
  · exact ⟨none, 0, rfl, fun j hj => by simp at hj⟩
  · refine ⟨some ⟨g, 0, none⟩, r.length, rfl, fun j hj => ⟨g, 0, rfl, hb, lt_of_at hr, ?_⟩⟩
    rw [Nat.zero_add, hr.cell j (by omega)]
    rw [← h2]
    simp [List.getD, List.getElem?_take]
    rw [if_pos (by have := hj; rw [← h2] at this; simp at this; omega)]
theorem rdB_own {B : Nat} {w : World} {v : Value} {l : List Nat} (h : Li.Own B w v l) : ∃ a c, v = .slice a l.length c ∧ RdQ B w.heap.size w a l := by
  rcases h.2 with ⟨h1, h2⟩ | ⟨g, cap, cur, hv, hg, hh, h1, h2, h3, h4⟩
  · exact ⟨none, 0, by rw [h1, h2], fun j hj => by omega⟩
  · refine ⟨some ⟨g, 0, none⟩, cap, hv, fun j hj => ⟨g, 0, rfl, hg, lt_of_at hh, ?_⟩⟩
    rw [Nat.zero_add, cell_of_row w g j cur 59 (0, 0) hh, ← Li.U_get l j hj, ← h4]
    simp [hj]
set_option maxRecDepth 100000 in
theorem Room_ownall (nm : ByteArray) (fa : Option Addr) (Fn cf : Nat) (N : Int) (ba : Option Addr) (base : List Int) (cb : Nat) (ta : Option Addr) (ts : List (Int × List Nd)) (ct : Nat) (o : Int) (w : World) (hE : EnR w ba base ta ts) :
    Calls Tryd.prog 14 #[.agg (ev nm fa Fn cf N ba base.length cb ta ts.length ct), .int .i64 o] w fun e w' => ∃ v, e = .returned (.tuple #[v, .int .i64 (rmZ base o)]) ∧ NatO w.heap.size w' v (rmN base ts o) ∧ rmN base ts o ≤ 9223372036854775808 * (4398046511104 + 1) ∧ Keep w w' := by
  by_cases h : 0 ≤ o ∧ o < (base.length : Int)
  · obtain ⟨q, rfl⟩ : ∃ q : Nat, o = (q : Int) := ⟨o.toNat, by omega⟩
    have hR := Room_own nm fa Fn cf N ba base cb ta ts ct q w (by omega) hE.bl hE.rb hE.bb hE.tl hE.tn hE.rt
    unfold rmN rmZ
    rw [if_pos h, if_pos h]
    exact hR
  · have hz : rmZ base o = 2 := if_neg h
    have hn : rmN base ts o = 0 := if_neg h
    rw [hz, hn]
    have hno : ∀ wx : World, NatO w.heap.size wx (.slice none 0 0) 0 := fun wx => ⟨[], .inl ⟨rfl, rfl⟩, by intro x hx; simp at hx, by simp [Lb.Nrm], rfl⟩
    obtain ⟨w1, hw1, k1, t1, s1⟩ := boxed w (ev nm fa Fn cf N ba base.length cb ta ts.length ct) 26
    obtain ⟨-, -, -, c3, c4⟩ := cells5 t1
    by_cases h0 : o < 0
    · have d0 : decide (o < 0) = true := decide_eq_true h0
      clear h h0
      go_enter Tryd.func14, Tryd.ntmps14
      go_wp2_with (rw [hw1])
      go_ret2
      exact ⟨_, rfl, hno _, by omega, k1⟩
    · have d0 : decide (o < 0) = false := decide_eq_false h0
      have d1 : decide ((base.length : Int) ≤ o) = true := decide_eq_true (by omega)
      clear h h0
      go_enter Tryd.func14, Tryd.ntmps14
      go_wp2_with (rw [hw1])
      go_ret2
      exact ⟨_, rfl, hno _, by omega, k1⟩
/-- The first room is written over: nothing else turns. -/
structure OwI (w2 w3 w5 wr : World) (v : Value) (n : Nat) : Prop where
  kp : Keep w2 wr
  eq : ∀ b, w3.heap.size ≤ b → b < w5.heap.size → wr.heap[b]? = w5.heap[b]?
  sz : w5.heap.size ≤ wr.heap.size
  ao : AO w2.heap.size w3.heap.size wr v n
end Go.Proofs.YtmkanofeencgpaaDoor
set_option linter.unusedVariables false
set_option linter.unusedSimpArgs false
namespace Go.Proofs.YtmkanofeencgpaaDoor
open Go.RowKit Go.Shelf
set_option maxRecDepth 100000 in
set_option maxHeartbeats 3000000 in
theorem law_rown (nm : ByteArray) (fa : Option Addr) (fs : List ByteArray) (cf : Nat) (N : Int) (ba : Option Addr) (base : List Int) (cb : Nat) (ta : Option Addr) (ts : List (Int × List Nd)) (ct : Nat) (o : Int) (w : World) (hA : EnA w nm fa fs ba base ta ts) :
    Calls Tryd.prog 8 #[.agg (ev nm fa fs.length cf N ba base.length cb ta ts.length ct), .int .i64 o] w fun e w' => e = .returned (.bool true) ∧ Keep w w' := by
  obtain ⟨w1, hw1, k1, t1, s1⟩ := boxed w (ev nm fa fs.length cf N ba base.length cb ta ts.length ct) 26
  obtain ⟨z0, z1, z2, z3, z4⟩ := cells5 t1
  have hB := begins_any w1 (hA.tb.keep k1)
  have hR := fun wx (q : Keep w1 wx) => Room_ownall nm fa fs.length cf N ba base cb ta ts ct o wx ((hA.er.keep k1).keep q)
  generalize rmZ base o = z at hR
  generalize rmN base ts o = r at hR
  have hzz : (z != z) = false := by simp
  have tk1 : True := trivial
  go_enter Tryd.func8, Tryd.ntmps8
  go_wp2_with (first
    | rw [hw1]
    | (go_at_call 19; refine hB.mono ?_; rintro e w2 ⟨rfl, k2⟩; obtain ⟨y0, y1, y2, y3, y4⟩ := cells5 (k2.at t1))
    | (go_at_call 14; have _t := tk1; clear tk1; refine (hR w2 k2).mono ?_; rintro e w3 ⟨va, rfl, N3, hb3, k3⟩
       obtain ⟨x0, x1, x2, x3, x4⟩ := cells5 ((k2.trans k3).at t1)
       have tk2 : True := trivial)
    | (go_at_call 14; have _u := tk2; clear tk2; refine (hR w3 (k2.trans k3)).mono ?_; rintro e w4 ⟨vb, rfl, N4, -, k4⟩
       obtain ⟨l, hRa, la1, la2, la3⟩ := N3
       obtain ⟨l', hRb, lb1, lb2, lb3⟩ := N4
       obtain rfl : l = l' := Lb.val_inj la1 lb1 la2 lb2 (la3.trans lb3.symm)
       have hl4 : l.length ≤ 4 := nat_len la2 (by omega)
       obtain ⟨aa, ca, rfl, qa⟩ := rdB_res hRa
       obtain ⟨ab, cbb, rfl, qb⟩ := rdB_res hRb)
    | (at_builtin; refine wpList_copyU rfl _ _ rfl l ab cbb ?_ ?_ qb.rd (by omega) ?_; rotate_left 2; intro vw w5 Ow k5))
  rotate_left 1
  · rfl
  · rfl
  obtain ⟨aw, cw, rfl, qw⟩ := rdB_own Ow
  have HI : Hid (OwI w2 w3 w5 w5 (.slice aa l.length ca) l.length) := ⟨k3.trans (k4.trans k5), fun b _ _ => rfl, Nat.le_refl _, (AO.of hRa (Nat.le_refl _)).same (fun i h1 h2 => (k4.trans k5).block i h2)⟩
  clear z0 z1 z2 z3 z4 y0 y1 y2 y3 y4 x0 x1 x2 x3 x4 Ow
  go_loopw [10] (fun i wr => ∃ j : Nat, i = .int .i64 (j : Int) ∧ j ≤ l.length ∧ Hid (OwI w2 w3 w5 wr (.slice aa l.length ca) l.length)) (fun i wr => l.length - (intOf i).toNat)
  case atStart => exact ⟨0, rfl, by omega, HI⟩
  case round =>
    clear HI
    obtain ⟨j, rfl, hj, HI⟩ := hrel
    by_cases hlt : j < l.length
    · have hltc : (j : Int) < (l.length : Int) := by omega
      rcases HI.out.ao with ⟨-, h0⟩ | ⟨g, rr, ev0, hg1, hg2, hrow, hrl⟩
      · omega
      · simp only [Value.slice.injEq] at ev0
        obtain ⟨rfl, -, rfl⟩ := ev0
        have cj := hrow.cell j (by omega)
        have fj := frozen_of_row wr g j _ 59 hrow
        have HJ : Hid (j < l.length) := hlt
        have HI2 : Hid (OwI w2 w3 w5 (wr.setCell ⟨g, j, none⟩ (.int .u32 (77 : Nat))) (.slice (some ⟨g, 0, none⟩) l.length rr.length) l.length) :=
          ⟨HI.out.kp.setCell (p := ⟨g, j, none⟩) hg1 _, fun b h1 h2 => (neq_set wr g j _ b (by omega)).trans (HI.out.eq b h1 h2), by have := HI.out.sz; simpa using this, .inr ⟨g, rr.set j 77, by simp, hg1, hg2, hrow.set j 77, by simpa using hrl⟩⟩
        clear hlt
        generalize rr.getD j 0 = old at cj
        go_wp2_with fail
        go_roundw
        case rel => exact ⟨j + 1, by go_num, by have := HJ.out; omega, HI2⟩
        case measure => have := HJ.out; simp [intOf]; omega
    · have hltc : ¬ (j : Int) < (l.length : Int) := by omega
      obtain ⟨z0, z1, z2, z3, z4⟩ := cells5 ((k2.trans HI.out.kp).at t1)
      clear hlt
      go_wp2_with (first
        | (at_builtin; refine wpList_appU w2.heap.size w3.heap.size rfl _ _ rfl l.length _ rfl HI.out.ao (by omega) HI.out.kp.le ?_ ?_; rotate_left 1; intro gn cn wB cB GB
           have hob : ∀ k, (Value.slice aa l.length ca).ownBlock = some k → w2.heap.size ≤ k ∧ k < w3.heap.size := by
             intro k hk
             rcases HI.out.ao with ⟨e, -⟩ | ⟨g, rr, e, h1, h2, -, -⟩
             · rw [e] at hk; cases hk
             · rw [e] at hk; cases hk; exact ⟨h1, h2⟩
           have KB : Keep w2 wB := Below.grown (HI.out.kp.alloc _) GB (by have := HI.out.kp.le; simp; omega) (fun k hk => (hob k hk).1)
           have eB : ∀ b, w3.heap.size ≤ b → b < w5.heap.size → wB.heap[b]? = w5.heap[b]? := fun b h1 h2 =>
             (GB.block b (by have := HI.out.sz; simp; omega) (fun e => by have := hob b e.symm; omega)).trans ((((Keep.refl _).alloc _).block b (by have := HI.out.sz; omega)).trans (HI.out.eq b h1 h2))
           have kB := k2.trans KB
           obtain ⟨x0, x1, x2, x3, x4⟩ := cells5 (kB.at t1)
           replace eB : Hid _ := eB
           clear z0 z1 z2 z3 z4 hob)
        | (go_at_call 14; refine (hR wB kB).mono ?_; rintro e wC ⟨vc, rfl, N6, -, k6⟩
           obtain ⟨l', hRc, lc1, lc2, lc3⟩ := N6
           obtain rfl : l = l' := Lb.val_inj la1 lc1 la2 lc2 (la3.trans lc3.symm)
           obtain ⟨ac, ccc, rfl, qc⟩ := rdB_res hRc
           have cC := k6.cell cB
           have s35 : w3.heap.size ≤ w4.heap.size := k4.le
           have s45 : w4.heap.size ≤ w5.heap.size := k5.le
           have hwC : w5.heap.size ≤ wB.heap.size := by have h1 := HI.out.sz; have h2 := GB.size; simp at h2; omega
           have qb2 : RdQ w3.heap.size w4.heap.size wC ab l := qb.same (fun i h1 h2 => ((k6.block i (by omega)).trans (eB.out i h1 (by omega))).trans (k5.block i h2))
           have qw2 : RdQ w4.heap.size w5.heap.size wC aw l := qw.same (fun i h1 h2 => (k6.block i (by omega)).trans (eB.out i (by omega) h2))
           have hl1 : ((l.length : Int) + 1) - 1 = (l.length : Int) := by omega
           have hln : ((l.length : Int) != (l.length : Int)) = false := by simp))
      go_loopw [13] (fun i wz => ∃ m : Nat, i = .int .i64 (m : Int) ∧ m ≤ l.length ∧ Keep wC wz) (fun i wz => l.length - (intOf i).toNat)
      case atStart => exact ⟨0, rfl, by omega, Keep.refl _⟩
      case round =>
        obtain ⟨m, rfl, hm, kz⟩ := hrel
        by_cases hml : m < l.length
        · have hmc : (m : Int) < (l.length : Int) := by omega
          obtain ⟨b1, o1, rfl, p1⟩ := ((qb2.rd).keep kz) m hml
          obtain ⟨b2, o2, rfl, p2⟩ := ((qw2.rd).keep kz) m hml
          obtain ⟨b3, o3, rfl, p3⟩ := ((qc.rd).keep kz) m hml
          have HM : Hid (m < l.length) := hml
          clear hml
          generalize l.getD m 0 = y at p1 p2 p3
          have hyy : ((y : Int) != (y : Int)) = false := by simp
          go_wp2_with fail
          go_quiet (fail)
          go_wp2_with fail
          go_roundw
          case rel => exact ⟨m + 1, by go_num, by have := HM.out; omega, kz.drewN _⟩
          case measure => have := HM.out; simp [intOf]; omega
        · have hmc : ¬ (m : Int) < (l.length : Int) := by omega
          clear hml
          go_wp2_with fail
          go_ret
          exact ⟨rfl, k1.trans (kB.trans (k6.trans kz))⟩
end Go.Proofs.YtmkanofeencgpaaDoor
