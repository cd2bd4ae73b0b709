import Derived.Test.YtaogjiffnebnkaaX5
import Derived.Deep.QuietTactic
import Derived.BigQuiet
set_option linter.unusedVariables false
set_option linter.unusedSimpArgs false
namespace Go.Proofs.Ytaogjiffnebnkaa
open Go.RowKit Go.Shelf Go.Maps
/-- Two rising lists as one. -/
def mrg : List Ct → List Ct → List Ct
  | A, [] => A
  | A, b :: B => A.takeWhile (fun a => decide (kC a ≤ kC b)) ++ b :: mrg (A.dropWhile fun a => decide (kC a ≤ kC b)) B
theorem mrg_nil (A : List Ct) : mrg A [] = A := by simp [mrg]
theorem mrg_none (b : Ct) (B : List Ct) : mrg [] (b :: B) = b :: mrg [] B := by simp [mrg]
theorem mrg_le {a b : Ct} (A B : List Ct) (h : kC a ≤ kC b) : mrg (a :: A) (b :: B) = a :: mrg A (b :: B) := by
  simp [mrg, List.takeWhile_cons, List.dropWhile_cons, h]
theorem mrg_gt {a b : Ct} (A B : List Ct) (h : ¬ kC a ≤ kC b) : mrg (a :: A) (b :: B) = b :: mrg (a :: A) B := by
  simp [mrg, List.takeWhile_cons, List.dropWhile_cons, h]
theorem mem_mrg : ∀ (B A : List Ct) (x : Ct), x ∈ mrg A B ↔ x ∈ A ∨ x ∈ B
  | [], A, x => by simp [mrg]
  | b :: B, A, x => by
    rw [mrg, List.mem_append, List.mem_cons, mem_mrg B]
    have h : x ∈ A ↔ x ∈ A.takeWhile (fun a => decide (kC a ≤ kC b)) ∨ x ∈ A.dropWhile (fun a => decide (kC a ≤ kC b)) := by
      rw [← List.mem_append, List.takeWhile_append_dropWhile]
    rw [h, List.mem_cons]
    constructor
    · rintro (q | q | q | q)
      · exact .inl (.inl q)
      · exact .inr (.inl q)
      · exact .inl (.inr q)
      · exact .inr (.inr q)
    · rintro ((q | q) | (q | q))
      · exact .inl q
      · exact .inr (.inr (.inl q))
      · exact .inr (.inl q)
      · exact .inr (.inr (.inr q))
theorem tw_all {A : List Ct} {b : Ct} : ∀ x ∈ A.takeWhile (fun a => decide (kC a ≤ kC b)), kC x ≤ kC b := by
  intro x hx
  have h := List.all_takeWhile (p := fun a => decide (kC a ≤ kC b)) (l := A)
  have := List.all_eq_true.1 h x hx
  simpa using this
theorem dw_all {b : Ct} : ∀ {A : List Ct}, srt kC A → ∀ x ∈ A.dropWhile (fun a => decide (kC a ≤ kC b)), kC b < kC x
  | [], _, x, hx => by simp at hx
  | a :: A, hs, x, hx => by
    obtain ⟨h1, h2⟩ := List.pairwise_cons.1 hs
    rw [List.dropWhile_cons] at hx
    by_cases q : kC a ≤ kC b
    · rw [if_pos (by simpa using q)] at hx
      exact dw_all h2 x hx
    · rw [if_neg (by simpa using q)] at hx
      rcases List.mem_cons.1 hx with rfl | hx
      · omega
      · have := h1 x hx; omega
/-- Merged stably: in order, and as one list behind the other. -/
theorem mrg_srt : ∀ {B A : List Ct}, srt kC A → srt kC B → srt kC (mrg A B) ∧ eqv kC (mrg A B) (A ++ B)
  | [], A, hA, _ => by rw [mrg_nil, List.append_nil]; exact ⟨hA, eqv.refl _⟩
  | b :: B, A, hA, hB => by
    obtain ⟨b1, b2⟩ := List.pairwise_cons.1 hB
    have hsp := List.takeWhile_append_dropWhile (p := fun a => decide (kC a ≤ kC b)) (l := A)
    have hd : srt kC (A.dropWhile fun a => decide (kC a ≤ kC b)) := hA.sublist (List.dropWhile_sublist _)
    have ht : srt kC (A.takeWhile fun a => decide (kC a ≤ kC b)) := hA.sublist (List.takeWhile_sublist _)
    obtain ⟨i1, i2⟩ := mrg_srt (A := A.dropWhile fun a => decide (kC a ≤ kC b)) hd b2
    have t1 := tw_all (A := A) (b := b)
    have d1 := dw_all (b := b) hA
    rw [mrg]
    generalize A.takeWhile (fun a => decide (kC a ≤ kC b)) = P at *
    generalize A.dropWhile (fun a => decide (kC a ≤ kC b)) = D at *
    refine ⟨?_, ?_⟩
    · refine List.pairwise_append.2 ⟨ht, List.pairwise_cons.2 ⟨fun x hx => ?_, i1⟩, fun x hx y hy => ?_⟩
      · rcases (mem_mrg B D x).1 hx with q | q
        · exact Int.le_of_lt (d1 x q)
        · exact b1 x q
      · have hx1 := t1 x hx
        rcases List.mem_cons.1 hy with rfl | hy
        · exact hx1
        · rcases (mem_mrg B D y).1 hy with q | q
          · have := d1 y q; omega
          · have := b1 y q; omega
    · rw [← hsp, List.append_assoc]
      refine eqv.app (eqv.refl P) ?_
      have h1 : eqv kC (b :: mrg D B) (b :: (D ++ B)) := eqv.app (X := [b]) (X' := [b]) (eqv.refl _) i2
      refine h1.trans ?_
      have h2 : eqv kC ([b] ++ D) (D ++ [b]) := eqv.swap fun x hx y hy => by
        rw [List.mem_singleton.1 hx]
        have := d1 y hy
        omega
      have h3 := eqv.app h2 (eqv.refl B)
      simpa using h3
/-- A list of cuts of one's own whose categories are others'. -/
structure RC (L : List Ct) (w : World) (v : Value) (wr : World) (K : List CI) : Prop where
  eq : K.map (fun r => r.1) = L
  own : OwnC w.heap.size wr v K
  cats : ∀ r ∈ K, RdI w r.2.1 r.1.cs ∧ r.1.cs.length ≤ r.2.2 ∧ r.1.cs.length ≤ 17592186044416
  kp : Keep w wr
theorem RC.nil (w : World) : RC [] w (.slice none 0 0) w [] := ⟨rfl, OwnC.nil _ _, by simp, Keep.refl w⟩
theorem RC.len {L : List Ct} {w : World} {v : Value} {wr : World} {K : List CI} (h : RC L w v wr K) : K.length = L.length := by rw [← h.eq, List.length_map]
theorem RC.keep {L : List Ct} {w : World} {v : Value} {wr w' : World} {K : List CI} (h : RC L w v wr K) (k : Keep wr w') : RC L w v w' K := ⟨h.eq, h.own.keep k, h.cats, h.kp.trans k⟩
theorem RC.grow {L M : List Ct} {w : World} {v : Value} {wr W : World} {K Z : List CI} (h : RC L w v wr K) (k : Keep wr W) {v' : Value} {w5 : World} (hO : OwnC w.heap.size w5 v' (K ++ Z)) (g : W.grownBy w5 v.ownBlock) (hZ : Z.map (fun r => r.1) = M) (hc : ∀ r ∈ Z, RdI w r.2.1 r.1.cs ∧ r.1.cs.length ≤ r.2.2 ∧ r.1.cs.length ≤ 17592186044416) : RC (L ++ M) w v' w5 (K ++ Z) := by
  have h2 := h.keep k
  refine ⟨by rw [List.map_append, h.eq, hZ], hO, fun r hr => ?_, Below.grown h2.kp g h2.kp.le (fun b hb => (h2.own.block hb).1)⟩
  rcases List.mem_append.1 hr with hr | hr
  · exact h.cats r hr
  · exact hc r hr
theorem RC.rd {L : List Ct} {w : World} {v : Value} {wr : World} {K : List CI} (h : RC L w v wr K) : ∃ a c, v = .slice a L.length c ∧ RdC wr a L := by
  obtain ⟨a, c, e, hc, hr⟩ := h.own.shape
  rw [h.len] at e
  refine ⟨a, c, e, ?_⟩
  intro j hj
  have hj' : j < K.length := by rw [h.len]; exact hj
  obtain ⟨b, rfl, hu⟩ := hr j hj'
  have ej : L.getD j cd0 = (K.getD j ct0).1 := by rw [← h.eq]; simp [List.getD, hj']
  have hm : K.getD j ct0 ∈ K := by
    have : K.getD j ct0 = K[j] := by simp [List.getD, hj']
    rw [this]; exact List.getElem_mem _
  obtain ⟨h1, h2, h3⟩ := h.cats _ hm
  rw [ej]
  generalize K.getD j ct0 = r at *
  refine ⟨b, 0, r.2.1, r.2.2, rfl, ?_⟩
  rw [Nat.zero_add]
  exact ⟨hu 0 _ (by omega) rfl, hu 1 _ (by omega) rfl, hu 2 _ (by omega) rfl, hu 3 _ (by omega) rfl, hu 4 _ (by omega) rfl, h1.keep h.kp, h2, h3⟩
end Go.Proofs.Ytaogjiffnebnkaa
set_option linter.unusedVariables false
set_option linter.unusedSimpArgs false
namespace Go.Proofs.Ytaogjiffnebnkaa
open Go.RowKit Go.Shelf Go.Maps
attribute [local go_sem] run_store_float
theorem leq_key {x y : Ct} (hx : okT x) (hy : okT y) : (FloatKind.f64.format.order x.th y.th == some .lt || FloatKind.f64.format.order x.th y.th == some .eq) = decide (kC x ≤ kC y) := by
  have h := order_ky x.th y.th hx.2 hy.2
  have h1 := key_ky hx.1 hx.2
  have h2 := key_ky hy.1 hy.2
  show (Ieee.double.order x.th y.th == some .lt || Ieee.double.order x.th y.th == some .eq) = _
  rw [h]
  unfold kC
  rcases Int.lt_trichotomy (ky x.th) (ky y.th) with q | q | q
  · rw [cmp_lt q, decide_eq_true (by omega)]; rfl
  · have e : compare (ky x.th) (ky y.th) = .eq := Int.compare_eq_eq.2 q
    rw [e, decide_eq_true (by omega)]; rfl
  · have e : compare (ky x.th) (ky y.th) = .gt := Int.compare_eq_gt.2 q
    rw [e, decide_eq_false (by omega)]; rfl
/-- append(l, cuts...). -/
theorem appCs (B : Nat) (w : World) (ty : Nat) (v : Value) (l Z : List CI) (hown : OwnC B w v l) (hB : B ≤ w.heap.size) (ad : Option Addr) (m c : Nat) (hm : Z.length = m)
    (hn : ∀ j, j < Z.length → ∃ b o, ad = some ⟨b, o, none⟩ ∧ ∀ i u, i < 5 → (UC [Z.getD j ct0])[i]? = some u → w.cell? ⟨b, o + j * 5 + i, none⟩ = some u) (hlen : l.length + m ≤ 1099511627776) :
    ∃ v' w', (Builtin.append_ #[31, 31] ty #[v, .slice ad m c]).run Try.prog w = .ok v' w' ∧ OwnC B w' v' (l ++ Z) ∧ w.grownBy w' v.ownBlock := by
  obtain ⟨i0, hi, hz0, hz1, hz2⟩ := info_parts i57
  rcases ad with _ | ad
  · obtain rfl : Z = [] := by
      by_cases h : Z = []
      · exact h
      · obtain ⟨b, o, e, -⟩ := hn 0 (List.length_pos_iff.2 h); cases e
    simp at hm
    subst hm
    refine ⟨v, w, ?_, by rw [List.append_nil]; exact hown, ⟨rfl, rfl, rfl, Nat.le_refl _, fun _ _ _ => rfl⟩⟩
    rcases hown.2 with ⟨rfl, -⟩ | ⟨g, cap, cur, rfl, -, -, h1, -⟩
    · go_simp
    · go_simp
  · have hnews : ∀ j u, (UC Z)[j]? = some u → w.cell? (ad.add j) = some u := by
      intro j u hj
      have hjl : j < Z.length * 5 := by have := (List.getElem?_eq_some_iff.1 hj).1; rw [UC_length] at this; exact this
      obtain ⟨b, o, e, hc⟩ := hn (j / 5) (by omega)
      simp only [Option.some.injEq] at e
      subst e
      have hjj : j = j / 5 * 5 + j % 5 := by omega
      rw [hjj, UC_get Z (j / 5) (j % 5) (by omega) (by omega)] at hj
      have := hc (j % 5) u (by omega) hj
      rw [Go.WideShapes.add_plain, show o + j = o + j / 5 * 5 + j % 5 by omega]
      exact this
    obtain ⟨v', w', hr, h2, h3, -⟩ := run_append_own (P := Try.prog) w B 31 ty 57 i0 _ 5 56 Try.underlying31 hi hz0 hz1 hz2 rfl (by decide) v _ _ hown ad m c (UC Z) (by rw [UC_length, hm]) hnews (UC_one Z) (by simp only [maxLen]; omega) (by omega) hB
    refine ⟨v', w', hr, ?_, h3⟩
    unfold OwnC; rw [List.length_append, UC_append, hm]; exact h2
theorem wpList_appCs (B : Nat) (w : World) {ops : Array Oper} {rest : List Oper} {o : Oper} {a : Act} {Q : Exit → Act → World → Prop} (hgd : o.guard = none) (s x : Operand)
    (hop : o.op = .call { callee := .builtin .append, args := #[s, x], argTypes := #[31, 31] }) (l Z : List CI) (v : Value) (hs : a.eval s = v) (hown : OwnC B w v l) (hB : B ≤ w.heap.size) (ad : Option Addr) (m c : Nat) (hx : a.eval x = .slice ad m c) (hm : Z.length = m)
    (hn : ∀ j, j < Z.length → ∃ b o, ad = some ⟨b, o, none⟩ ∧ ∀ i u, i < 5 → (UC [Z.getD j ct0])[i]? = some u → w.cell? ⟨b, o + j * 5 + i, none⟩ = some u) (hlen : l.length + m ≤ 1099511627776)
    (hK : ∀ v' w', OwnC B w' v' (l ++ Z) → w.grownBy w' v.ownBlock → wpList Try.prog ops Q rest (a.put o.dst v') w') :
    wpList Try.prog ops Q (o :: rest) a w := by
  refine wpList_plain hgd fun K hK' => ?_
  obtain ⟨v', w', hrun, r1, r2⟩ := appCs B w o.type v l Z hown hB ad m c hm hn hlen
  unfold Oper.wp
  simp [execOp, hop, resolve, invoke, builtin, hs, hx, hrun, Result.andThen]
  exact hK' _ _ (hK v' w' r1 r2)
/-- Cuts as they lie, with where their categories lie. -/
theorem RdC.ci {w : World} {a : Option Addr} {L : List Ct} (h : RdC w a L) : ∃ Z : List CI, Z.map (fun r => r.1) = L ∧ (∀ r ∈ Z, RdI w r.2.1 r.1.cs ∧ r.1.cs.length ≤ r.2.2 ∧ r.1.cs.length ≤ 17592186044416) ∧ ∀ j, j < Z.length → ∃ b o, a = some ⟨b, o, none⟩ ∧ ∀ i u, i < 5 → (UC [Z.getD j ct0])[i]? = some u → w.cell? ⟨b, o + j * 5 + i, none⟩ = some u := by
  induction L generalizing a with
  | nil => exact ⟨[], rfl, by simp, fun j hj => by simp at hj⟩
  | cons c L ih =>
    obtain ⟨b, o, ca, cap, rfl, h0⟩ := h 0 (by simp)
    have hr : RdC w (some ⟨b, o + 5, none⟩) L := by
      intro j hj
      obtain ⟨b', o', ca', cap', e, h1⟩ := h (j + 1) (by simpa using hj)
      simp only [Option.some.injEq, Addr.mk.injEq, and_true] at e
      obtain ⟨rfl, rfl⟩ := e
      refine ⟨b, o + 5, ca', cap', rfl, ?_⟩
      rw [show o + 5 + j * 5 = o + (j + 1) * 5 by omega]
      simpa using h1
    obtain ⟨Z, z1, z2, z3⟩ := ih hr
    simp only [List.getD_cons_zero, Nat.zero_mul, Nat.add_zero] at h0
    refine ⟨(c, ca, cap) :: Z, by rw [List.map_cons, z1], ?_, ?_⟩
    · intro r hr
      rcases List.mem_cons.1 hr with rfl | hr
      · exact ⟨h0.rd, h0.cp, h0.sz⟩
      · exact z2 r hr
    · intro j hj
      refine ⟨b, o, rfl, ?_⟩
      cases j with
      | zero =>
        intro i u hi hu
        simp only [List.getD_cons_zero, UC] at hu
        rw [Nat.zero_mul, Nat.add_zero]
        match i, hi with
        | 0, _ => simp at hu; rw [← hu]; exact h0.c0
        | 1, _ => simp at hu; rw [← hu]; exact h0.c1
        | 2, _ => simp at hu; rw [← hu]; exact h0.c2
        | 3, _ => simp at hu; rw [← hu]; exact h0.c3
        | 4, _ => simp at hu; rw [← hu]; exact h0.c4
      | succ j =>
        intro i u hi hu
        obtain ⟨b', o', e, h1⟩ := z3 j (by simpa using hj)
        simp only [Option.some.injEq, Addr.mk.injEq, and_true] at e
        obtain ⟨rfl, rfl⟩ := e
        rw [show o + (j + 1) * 5 + i = o + 5 + j * 5 + i by omega]
        exact h1 i u hi (by simpa using hu)
end Go.Proofs.Ytaogjiffnebnkaa
set_option linter.unusedVariables false
set_option linter.unusedSimpArgs false
namespace Go.Proofs.Ytaogjiffnebnkaa
open Go.RowKit Go.Shelf Go.Maps
attribute [local go_sem] run_store_float
/-- One cut more, another's. -/
theorem RC.one {L : List Ct} {w : World} {v : Value} {wr W : World} {K : List CI} (h : RC L w v wr K) (k : Keep wr W) {N : Ct} {ca : Option Addr} {cp : Nat} (hr : RdI w ca N.cs) (hc : N.cs.length ≤ cp) (hs : N.cs.length ≤ 17592186044416) {v' : Value} {w5 : World} (hO : OwnC w.heap.size w5 v' (K ++ [(N, ca, cp)])) (g : W.grownBy w5 v.ownBlock) : RC (L ++ [N]) w v' w5 (K ++ [(N, ca, cp)]) :=
  h.grow k hO g rfl (fun r hr' => by rw [List.mem_singleton.1 hr']; exact ⟨hr, hc, hs⟩)
set_option maxRecDepth 100000 in
set_option maxHeartbeats 4000000 in
theorem merged_any (a b : Option Addr) (ca cb : Nat) (A B : List Ct) (n m : Nat) (hn : A.length = n) (hm : B.length = m) (w : World) (hnm : n + m ≤ 1099511627776) (hca : n ≤ ca) (ha : RdC w a A) (hb : RdC w b B) (hA : ∀ x ∈ A, okT x) (hB : ∀ x ∈ B, okT x) :
    Calls Try.prog 29 #[.slice a n ca, .slice b m cb] w fun e w' => ∃ v, e = .returned v ∧ ∃ K, RC (mrg A B) w v w' K := by
  have HN : Hid (A.length = n ∧ B.length = m ∧ n + m ≤ 1099511627776) := ⟨hn, hm, hnm⟩
  have hn64 : Hid (n ≤ 1099511627776 ∧ m ≤ 1099511627776) := by constructor <;> omega
  clear hn hm hnm
  go_enter Try.func29, Try.ntmps29
  go_wp2_with fail
  go_loopw [5, 6, 7] (fun v iv jv wr => ∃ (i j : Nat) (O : List Ct) (K : List CI), iv = .int .i64 (i : Int) ∧ jv = .int .i64 (j : Int) ∧ i ≤ n ∧ j ≤ m ∧ RC O w v wr K ∧ Hid (O.length = i + j) ∧ Hid (mrg A B = O ++ mrg (A.drop i) (B.drop j))) (fun _ _ jv _ => m - (intOf jv).toNat)
  case atStart => exact ⟨0, 0, [], [], rfl, rfl, Nat.zero_le _, Nat.zero_le _, RC.nil w, rfl, rfl⟩
  case round =>
    obtain ⟨i, j, O, K, rfl, rfl, hi, hj, hI, hOl, hM⟩ := hrel
    by_cases hjl : j < m
    · have hjc : (j : Int) < (m : Int) := by omega
      have hj1 : Hid (j < m) := hjl
      have hjB : j < B.length := by rw [HN.out.2.1]; exact hjl
      obtain ⟨b2, o2, ca2, cp2, rfl, hd⟩ := hb j hjB
      have hdr : Hid (B.drop j = B.getD j cd0 :: B.drop (j + 1)) := by
        show _ = _
        rw [List.drop_eq_getElem_cons hjB]; simp [List.getD, hjB]
      have hokb : Hid (okT (B.getD j cd0)) := by
        have : B.getD j cd0 = B[j] := by simp [List.getD, hjB]
        show okT _
        rw [this]; exact hB _ (List.getElem_mem _)
      generalize B.getD j cd0 = Nb at *
      obtain ⟨d0, d1, d2, d3, d4, hr2, hc2, hs2⟩ := hd
      have hI0 : Hid (RC O w u5 wr K) := hI
      go_wp2_with fail
      go_loopw [5, 6] (fun v iv wx => ∃ (i' : Nat) (O' : List Ct) (K' : List CI), iv = .int .i64 (i' : Int) ∧ i' ≤ n ∧ RC O' w v wx K' ∧ Hid (O'.length = i' + j) ∧ Hid (mrg A B = O' ++ mrg (A.drop i') (Nb :: B.drop (j + 1)))) (fun _ iv _ => n - (intOf iv).toNat)
      case atStart => exact ⟨i, O, K, rfl, hi, hI0.out, hOl, by show _ = _; rw [hM.out, hdr.out]⟩
      case round =>
        clear hM hOl hI hI0 hi
        obtain ⟨i', O', K', rfl, hi', hI', hOl', hM'⟩ := hrel
        have kw := hI'.kp
        have e0 := kw.cell d0
        have e1 := kw.cell d1
        have e2 := kw.cell d2
        have e3 := kw.cell d3
        have e4 := kw.cell d4
        have hK1 : Hid (K'.length + 1 ≤ 1099511627776) := by
          show _ ≤ _
          have h1 := hI'.len
          have h2 := hOl'.out
          have h3 := HN.out.2.2
          have h4 := hj1.out
          omega
        have hB4 := kw.le
        by_cases hil : i' < n
        · have hic : (i' : Int) < (n : Int) := by omega
          have hiA : i' < A.length := by rw [HN.out.1]; exact hil
          obtain ⟨b1, o1, ca1, cp1, rfl, hc⟩ := ha i' hiA
          have hdrA : Hid (A.drop i' = A.getD i' cd0 :: A.drop (i' + 1)) := by
            show _ = _
            rw [List.drop_eq_getElem_cons hiA]; simp [List.getD, hiA]
          have hoka : okT (A.getD i' cd0) := by
            have : A.getD i' cd0 = A[i'] := by simp [List.getD, hiA]
            rw [this]; exact hA _ (List.getElem_mem _)
          generalize A.getD i' cd0 = Na at *
          obtain ⟨c0, c1, c2, c3, c4, hr1, hc1, hs1⟩ := hc
          have x0 := kw.cell c0
          have x1 := kw.cell c1
          have x2 := kw.cell c2
          have x3 := kw.cell c3
          have x4 := kw.cell c4
          have hleq := leq_key hoka hokb.out
          clear c0 c1 c2 c3 c4
          by_cases hk : kC Na ≤ kC Nb
          · rw [decide_eq_true hk] at hleq
            have hM2 : Hid (mrg A B = (O' ++ [Na]) ++ mrg (A.drop (i' + 1)) (Nb :: B.drop (j + 1))) := by
              show _ = _
              rw [hM'.out, hdrA.out, mrg_le _ _ hk]; simp
            replace hI' : Hid _ := hI'
            replace hk : Hid _ := hk
            go_wp2_with fail
            go_quiet (fail)
            have kd : Keep wr (wr.drewN nq) := (Keep.refl wr).drewN nq
            generalize wr.drewN nq = W at *
            have y0 := kd.cell x0
            have y1 := kd.cell x1
            have y2 := kd.cell x2
            have y3 := kd.cell x3
            have y4 := kd.cell x4
            replace kd : Hid _ := kd
            go_wp2_with (at_builtin; refine wpList_appC w.heap.size _ rfl _ _ rfl K' (Na, ca1, cp1) u5 ?_ (OwnC.keep (RC.own hI'.out) (Keep.alloc kd.out _)) (Nat.le_trans hB4 (Keep.le (Keep.alloc kd.out _))) ⟨W.heap.size, 0, none⟩ 1 ?_ (newsC _ _ rfl Na ca1 cp1) hK1.out ?_; rotate_left 2; intro v5 w5 hO5 g5 hv5)
            · have hn1 := hn64.out.1
              rw [wrap_up4 hn1 hil]
              have hfin := RC.one hI'.out (Keep.alloc kd.out _) hr1 hc1 hs1 hO5 g5
              refine ⟨⟨i' + 1, _, _, rfl, hil, hfin, ?_, hM2⟩, ?_⟩
              · show _ = _
                rw [List.length_append, hOl'.out]; simp; omega
              · show n - (((i' + 1 : Nat) : Int)).toNat < n - ((i' : Int)).toNat
                omega
            all_goals rfl
          · rw [decide_eq_false hk] at hleq
            have hM2 : Hid (mrg A B = (O' ++ [Nb]) ++ mrg (A.drop i') (B.drop (j + 1))) := by
              show _ = _
              rw [hM'.out, hdrA.out, mrg_gt _ _ hk]; simp
            replace hk : Hid _ := hk
            replace hI' : Hid _ := hI'
            go_wp2_with fail
            go_quiet (fail)
            have kd : Keep wr (wr.drewN nq) := (Keep.refl wr).drewN nq
            generalize wr.drewN nq = W at *
            have y0 := kd.cell e0
            have y1 := kd.cell e1
            have y2 := kd.cell e2
            have y3 := kd.cell e3
            have y4 := kd.cell e4
            replace kd : Hid _ := kd
            go_wp2_with (at_builtin; refine wpList_appC w.heap.size _ rfl _ _ rfl K' (Nb, ca2, cp2) u5 ?_ (OwnC.keep (RC.own hI'.out) (Keep.alloc kd.out _)) (Nat.le_trans hB4 (Keep.le (Keep.alloc kd.out _))) ⟨W.heap.size, 0, none⟩ 1 ?_ (newsC _ _ rfl Nb ca2 cp2) hK1.out ?_; rotate_left 2; intro v5 w5 hO5 g5 hv5)
            · have hn1 := hn64.out.2
              have hj2 := hj1.out
              rw [wrap_up4 hn1 hj2]
              have hfin := RC.one hI'.out (Keep.alloc kd.out _) hr2 hc2 hs2 hO5 g5
              refine ⟨⟨i', j + 1, _, _, rfl, rfl, hi', hj2, hfin, ?_, hM2⟩, ?_⟩
              · show _ = _
                rw [List.length_append, hOl'.out]; simp; omega
              · show m - (((j + 1 : Nat) : Int)).toNat < m - ((j : Int)).toNat
                omega
            all_goals rfl
        · have hic : ¬ (i' : Int) < (n : Int) := by omega
          have hM2 : Hid (mrg A B = (O' ++ [Nb]) ++ mrg (A.drop i') (B.drop (j + 1))) := by
            show _ = _
            rw [hM'.out, List.drop_eq_nil_of_le (by rw [HN.out.1]; omega), mrg_none]; simp
          replace hI' : Hid _ := hI'
          go_wp2_with fail
          go_quiet (fail)
          have kd : Keep wr (wr.drewN nq) := (Keep.refl wr).drewN nq
          generalize wr.drewN nq = W at *
          have y0 := kd.cell e0
          have y1 := kd.cell e1
          have y2 := kd.cell e2
          have y3 := kd.cell e3
          have y4 := kd.cell e4
          replace kd : Hid _ := kd
          go_wp2_with (at_builtin; refine wpList_appC w.heap.size _ rfl _ _ rfl K' (Nb, ca2, cp2) u5 ?_ (OwnC.keep (RC.own hI'.out) (Keep.alloc kd.out _)) (Nat.le_trans hB4 (Keep.le (Keep.alloc kd.out _))) ⟨W.heap.size, 0, none⟩ 1 ?_ (newsC _ _ rfl Nb ca2 cp2) hK1.out ?_; rotate_left 2; intro v5 w5 hO5 g5 hv5)
          · have hn1 := hn64.out.2
            have hj2 := hj1.out
            rw [wrap_up4 hn1 hj2]
            have hfin := RC.one hI'.out (Keep.alloc kd.out _) hr2 hc2 hs2 hO5 g5
            refine ⟨⟨i', j + 1, _, _, rfl, rfl, hi', hj2, hfin, ?_, hM2⟩, ?_⟩
            · show _ = _
              rw [List.length_append, hOl'.out]; simp; omega
            · show m - (((j + 1 : Nat) : Int)).toNat < m - ((j : Int)).toNat
              omega
          all_goals rfl
    · have hjc : ¬ (j : Int) < (m : Int) := by omega
      obtain rfl : j = m := by omega
      obtain ⟨Z, z1, z2, z3⟩ := ha.ci
      have hZl : Z.length = n := by
        have h1 := congrArg List.length z1
        rw [List.length_map, HN.out.1] at h1
        exact h1
      have hM2 : Hid (mrg A B = O ++ (Z.drop i).map (fun r => r.1)) := by
        show _ = _
        rw [hM.out, show B.drop j = [] from List.drop_eq_nil_of_le (by rw [HN.out.2.1]; omega), mrg_nil, ← z1, List.map_drop]
      have hKl : K.length + (n - i) ≤ 1099511627776 := by
        have h1 := hI.len
        have h2 := hOl.out
        have h3 := HN.out.2.2
        omega
      have hic : (i : Int) ≤ (n : Int) := by omega
      have hB4 := hI.kp.le
      have kw := hI.kp
      replace hI : Hid (RC O w u5 wr K) := hI
      replace z2 : Hid _ := z2
      replace hKl : Hid _ := hKl
      replace hZl : Hid (Z.length = n) := hZl
      have hdl : Hid ((Z.drop i).length = n - i) := by show _ = _; rw [List.length_drop, hZl.out]
      clear ha hb hjl hjc
      by_cases hni : i < n
      · have hci : ¬ ca = i := by omega
        obtain ⟨b1, o1, rfl, -⟩ := z3 0 (by rw [hZl.out]; omega)
        replace hni : Hid (i < n) := hni
        go_wp2_with (at_builtin; refine wpList_appCs w.heap.size _ rfl _ _ rfl K (Z.drop i) u5 rfl (RC.own hI.out) hB4 _ _ _ rfl ?_ ?_ ?_ ?_; rotate_left 3; intro v5 w5 hO5 g5)
        · go_ret
          have hfin := RC.grow hI.out (Keep.refl wr) hO5 g5 (M := (Z.drop i).map (fun r => r.1)) rfl (fun r hr => z2.out r (List.mem_of_mem_drop hr))
          rw [← hM2.out] at hfin
          exact ⟨_, rfl, _, hfin⟩
        · exact hdl.out
        · intro q hq
          rw [hdl.out] at hq
          obtain ⟨b', o', e, h1⟩ := z3 (i + q) (by rw [hZl.out]; omega)
          simp only [Option.some.injEq, Addr.mk.injEq, and_true] at e
          obtain ⟨rfl, rfl⟩ := e
          refine ⟨b1, o1 + i * 5, rfl, fun i' u hi' hu => ?_⟩
          have e2 : (Z.drop i).getD q ct0 = Z.getD (i + q) ct0 := by simp [List.getD, List.getElem?_drop]
          rw [e2] at hu
          rw [show o1 + i * 5 + q * 5 + i' = o1 + (i + q) * 5 + i' by omega]
          exact kw.cell (h1 i' u hi' hu)
        · exact hKl.out
      · obtain rfl : i = n := by omega
        have hZ0 : Hid ((Z.drop i).length = 0) := by show _ = _; rw [hdl.out]; omega
        have hdl2 : Hid ((Z.drop i).length = i - i) := hdl
        clear z3
        rcases a with _ | ⟨b1, o1, sp⟩
        · by_cases hci : ca = i
          · have hci2 : (ca == i) = true := by simp [hci]
            go_wp2_with (at_builtin; refine wpList_appCs w.heap.size _ rfl _ _ rfl K (Z.drop i) u5 rfl (RC.own hI.out) hB4 _ _ _ rfl ?_ ?_ ?_ ?_; rotate_left 3; intro v5 w5 hO5 g5)
            · go_ret
              have hfin := RC.grow hI.out (Keep.refl wr) hO5 g5 (M := (Z.drop i).map (fun r => r.1)) rfl (fun r hr => z2.out r (List.mem_of_mem_drop hr))
              rw [← hM2.out] at hfin
              exact ⟨_, rfl, _, hfin⟩
            · rw [hZ0.out]; try simp
            · intro q hq; rw [hZ0.out] at hq; omega
            · have := hKl.out; omega
          · have hci2 : (ca == i) = false := by simp [hci]
            go_wp2_with (at_builtin; refine wpList_appCs w.heap.size _ rfl _ _ rfl K (Z.drop i) u5 rfl (RC.own hI.out) hB4 _ _ _ rfl ?_ ?_ ?_ ?_; rotate_left 3; intro v5 w5 hO5 g5)
            · go_ret
              have hfin := RC.grow hI.out (Keep.refl wr) hO5 g5 (M := (Z.drop i).map (fun r => r.1)) rfl (fun r hr => z2.out r (List.mem_of_mem_drop hr))
              rw [← hM2.out] at hfin
              exact ⟨_, rfl, _, hfin⟩
            · rw [hZ0.out]; try simp
            · intro q hq; rw [hZ0.out] at hq; omega
            · have := hKl.out; omega
        · by_cases hci : ca = i
          · have hci2 : (ca == i) = true := by simp [hci]
            go_wp2_with (at_builtin; refine wpList_appCs w.heap.size _ rfl _ _ rfl K (Z.drop i) u5 rfl (RC.own hI.out) hB4 _ _ _ rfl ?_ ?_ ?_ ?_; rotate_left 3; intro v5 w5 hO5 g5)
            · go_ret
              have hfin := RC.grow hI.out (Keep.refl wr) hO5 g5 (M := (Z.drop i).map (fun r => r.1)) rfl (fun r hr => z2.out r (List.mem_of_mem_drop hr))
              rw [← hM2.out] at hfin
              exact ⟨_, rfl, _, hfin⟩
            · rw [hZ0.out]; try simp
            · intro q hq; rw [hZ0.out] at hq; omega
            · have := hKl.out; omega
          · have hci2 : (ca == i) = false := by simp [hci]
            go_wp2_with (at_builtin; refine wpList_appCs w.heap.size _ rfl _ _ rfl K (Z.drop i) u5 rfl (RC.own hI.out) hB4 _ _ _ rfl ?_ ?_ ?_ ?_; rotate_left 3; intro v5 w5 hO5 g5)
            · go_ret
              have hfin := RC.grow hI.out (Keep.refl wr) hO5 g5 (M := (Z.drop i).map (fun r => r.1)) rfl (fun r hr => z2.out r (List.mem_of_mem_drop hr))
              rw [← hM2.out] at hfin
              exact ⟨_, rfl, _, hfin⟩
            · rw [hZ0.out]; try simp
            · intro q hq; rw [hZ0.out] at hq; omega
            · have := hKl.out; omega
end Go.Proofs.Ytaogjiffnebnkaa
