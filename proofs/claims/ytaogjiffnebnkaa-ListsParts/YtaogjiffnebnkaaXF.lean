import Derived.Test.YtaogjiffnebnkaaX8
import Derived.Test.YtaogjiffnebnkaaP12
set_option linter.unusedVariables false
set_option linter.unusedSimpArgs false
namespace Go.Proofs.Ytaogjiffnebnkaa
open Go.RowKit Go.Shelf Go.Maps
/-- What is gathered of trees that are numbered on. -/
def shS (z : Int) (S : List (Nd × Ct)) : List (Nd × Ct) := S.map fun s => (s.1, shf z s.2)
theorem gat_sh (L : List Nd) (k z : Int) : gat L (k + z) = shS z (gat L k) := by
  unfold gat shS
  rw [List.map_map]
  rfl
theorem gall_app (l : List (Int × List Nd)) : ∀ (n : Nat) (m : List (Int × List Nd)), m.length = n → gall (l ++ m) = gall l ++ shS (l.length : Nat) (gall m)
  | 0, m, h => by
    obtain rfl := List.eq_nil_of_length_eq_zero h
    simp [gall, shS]
  | n + 1, m, h => by
    obtain ⟨m', t, rfl⟩ : ∃ m' t, m = m' ++ [t] := ⟨m.dropLast, m.getLast (by intro e; rw [e] at h; cases h), (List.dropLast_concat_getLast _).symm⟩
    have hl : m'.length = n := by rw [List.length_append] at h; simpa using h
    rw [← List.append_assoc, gall_snoc, gall_app l n m' hl, gall_snoc, List.append_assoc]
    congr 1
    unfold shS
    rw [List.map_append]
    congr 1
    rw [List.length_append, show (((l.length + m'.length : Nat)) : Int) = (m'.length : Nat) + (l.length : Nat) by omega, gat_sh]
    rfl
theorem sel_app (S S' : List (Nd × Ct)) (φ : Int) (j : Nat) : sel (S ++ S') φ j = sel S φ j ++ sel S' φ j := by
  unfold sel; rw [List.filter_append, List.map_append]
theorem sel_sh (z : Int) (S : List (Nd × Ct)) (φ : Int) (j : Nat) : sel (shS z S) φ j = (sel S φ j).map (shf z) := by
  unfold sel shS
  rw [List.filter_map, List.map_map, List.map_map]
  rfl
theorem srt_sh {z : Int} {L : List Ct} (h : srt kC L) : srt kC (L.map (shf z)) := by
  show (L.map _).Pairwise _
  rw [List.pairwise_map]
  exact h
theorem eqv_sh {z : Int} {L M : List Ct} (h : eqv kC L M) : eqv kC (L.map (shf z)) (M.map (shf z)) := by
  intro k
  rw [List.filter_map, List.filter_map]
  congr 1
  exact h k
/-- What a feature's list is, whether there is one or not. -/
theorem IsL.lkp {S : List (Nd × Ct)} {T : List Lst} (h : IsL S T) (f : Int) : (lkp T f).cs = sel S f 1 ∧ (lkp T f).ls = sel S f 2 ∧ srt kC (lkp T f).ns ∧ eqv kC (lkp T f).ns (sel S f 0) := by
  unfold Go.Proofs.Ytaogjiffnebnkaa.lkp
  cases e : T.find? (fun t => t.ft == f) with
  | none =>
    have hn : ∀ s ∈ S, s.1.ft ≠ f := by
      intro s hs q
      obtain ⟨t, ht, r⟩ := (h.mem f).1 ⟨s, hs, q⟩
      have := List.find?_eq_none.1 e t ht
      simp [r] at this
    simp only [Option.getD_none]
    rw [sel_none hn, sel_none hn, sel_none hn]
    exact ⟨rfl, rfl, List.Pairwise.nil, eqv.refl _⟩
  | some t =>
    have ht := List.mem_of_find?_eq_some e
    have hf : t.ft = f := by have := List.find?_some e; simpa using this
    simp only [Option.getD_some]
    obtain ⟨n1, n2⟩ := h.ns t ht
    have c1 := h.cs t ht
    have c2 := h.ls t ht
    rw [hf] at c1 c2 n2
    exact ⟨c1, c2, n1, n2⟩
/-- Each list of the whole is made of those of the parts. -/
theorem parts_eq {SA SB : List (Nd × Ct)} {z : Int} {T TA TB : List Lst} (h : IsL (SA ++ shS z SB) T) (hA : IsL SA TA) (hB : IsL SB TB) {t : Lst} (ht : t ∈ T) :
    t.ns = mrg (lkp TA t.ft).ns ((lkp TB t.ft).ns.map (shf z)) ∧ t.cs = (lkp TA t.ft).cs ++ (lkp TB t.ft).cs.map (shf z) ∧ t.ls = (lkp TA t.ft).ls ++ (lkp TB t.ft).ls.map (shf z) := by
  obtain ⟨a1, a2, a3, a4⟩ := hA.lkp t.ft
  obtain ⟨b1, b2, b3, b4⟩ := hB.lkp t.ft
  obtain ⟨n1, n2⟩ := h.ns t ht
  refine ⟨?_, ?_, ?_⟩
  · obtain ⟨m1, m2⟩ := mrg_srt (A := (lkp TA t.ft).ns) (B := (lkp TB t.ft).ns.map (shf z)) a3 (srt_sh b3)
    refine one n1 m1 (n2.trans ?_)
    refine eqv.trans ?_ m2.symm
    rw [sel_app, sel_sh]
    exact eqv.app a4.symm (eqv_sh b4).symm
  · rw [h.cs t ht, sel_app, sel_sh, a1, b1]
  · rw [h.ls t ht, sel_app, sel_sh, a2, b2]
/-- How many cuts lists hold. -/
def cnt (T : List Lst) : Nat := (T.map fun t => t.ns.length + t.cs.length).sum
theorem cnt_snoc (T : List Lst) (t : Lst) : cnt (T ++ [t]) = cnt T + (t.ns.length + t.cs.length) := by simp [cnt]
theorem sel_both (S : List (Nd × Ct)) (φ : Int) : (sel S φ 0).length + (sel S φ 1).length = (S.filter fun s => s.1.ft == φ).length := by
  induction S with
  | nil => rfl
  | cons s S ih =>
    unfold sel at ih ⊢
    simp only [List.length_map] at ih ⊢
    simp only [List.filter_cons]
    have hc : cnd s.1 1 = !(cnd s.1 0) := rfl
    rw [hc]
    cases (s.1.ft == φ) <;> cases (cnd s.1 0) <;> simp only [Bool.and_true, Bool.and_false, Bool.true_and, Bool.false_and, Bool.not_true, Bool.not_false, if_true, if_false, Bool.false_eq_true, List.length_cons] <;> omega
theorem one_of {f : Int} : ∀ {l : List Int}, l.Nodup → f ∈ l → (l.map fun g => if f == g then 1 else 0).sum = 1
  | [], _, h => by cases h
  | g :: l, hn, h => by
    obtain ⟨h1, h2⟩ := List.nodup_cons.1 hn
    simp only [List.map_cons, List.sum_cons]
    by_cases e : f = g
    · subst e
      have : (l.map fun g => if f == g then 1 else 0).sum = 0 := by
        have hz : ∀ l' : List Int, f ∉ l' → (l'.map fun g => if f == g then 1 else 0).sum = 0 := by
          intro l'
          induction l' with
          | nil => intro _; rfl
          | cons x l' ih =>
            intro hx
            simp only [List.mem_cons, not_or] at hx
            simp only [List.map_cons, List.sum_cons, ih hx.2]
            simp [hx.1]
        exact hz l h1
      rw [this]; simp
    · have := one_of h2 ((List.mem_cons.1 h).resolve_left e)
      rw [this]; simp [e]
theorem part_len : ∀ (S : List (Nd × Ct)) (l : List Int), l.Nodup → (∀ s ∈ S, s.1.ft ∈ l) → (l.map fun f => (S.filter fun s => s.1.ft == f).length).sum = S.length
  | [], l, _, _ => by
    have : ∀ l' : List Int, (l'.map fun _ => 0).sum = 0 := by intro l'; induction l' with
      | nil => rfl
      | cons x l' ih => simpa using ih
    simpa using this l
  | s :: S, l, hn, h => by
    have ih := part_len S l hn (fun s' hs => h s' (List.mem_cons_of_mem _ hs))
    have h1 := one_of hn (h s List.mem_cons_self)
    have hs : ∀ l' : List Int, (l'.map fun f => ((s :: S).filter fun s => s.1.ft == f).length).sum = (l'.map fun f => (S.filter fun s => s.1.ft == f).length).sum + (l'.map fun g => if s.1.ft == g then 1 else 0).sum := by
      intro l'
      induction l' with
      | nil => rfl
      | cons x l' ih2 =>
        rw [List.map_cons, List.sum_cons, ih2, List.map_cons, List.sum_cons, List.map_cons, List.sum_cons, List.filter_cons]
        cases (s.1.ft == x) <;> simp only [if_true, if_false, Bool.false_eq_true, List.length_cons] <;> omega
    rw [hs, ih, h1]
    simp
/-- They hold each cut once. -/
theorem IsL.cnt {S : List (Nd × Ct)} {T : List Lst} (h : IsL S T) : cnt T = S.length := by
  have hn : (T.map (·.ft)).Nodup := by
    show List.Pairwise _ _
    rw [List.pairwise_map]
    exact h.rise.imp fun q => by omega
  rw [← part_len S (T.map (·.ft)) hn (fun s hs => by
    obtain ⟨t, ht, e⟩ := (h.mem s.1.ft).1 ⟨s, hs, rfl⟩
    exact List.mem_map.2 ⟨t, ht, e⟩)]
  unfold Go.Proofs.Ytaogjiffnebnkaa.cnt
  rw [List.map_map]
  congr 1
  apply List.map_congr_left
  intro t ht
  have h1 := eqv.len (h.ns t ht).2
  have h2 := congrArg List.length (h.cs t ht)
  show t.ns.length + t.cs.length = _
  rw [h1, h2]
  exact sel_both S t.ft
theorem firE_app {F : Int} : ∀ (l m : List (Int × List Nd)), firE (l ++ m) F = if firE l F ≠ 0 then firE l F else firE m F
  | [], m => by simp [firE]
  | t :: l, m => by
    have ih := firE_app (F := F) l m
    by_cases q : tkE t.2 F ≠ 0
    · have e1 : firE (t :: (l ++ m)) F = tkE t.2 F := by unfold firE; rw [if_pos q]
      have e2 : firE (t :: l) F = tkE t.2 F := by unfold firE; rw [if_pos q]
      rw [List.cons_append, e1, e2, if_pos q]
    · have e1 : firE (t :: (l ++ m)) F = firE (l ++ m) F := if_neg q
      have e2 : firE (t :: l) F = firE l F := if_neg q
      rw [List.cons_append, e1, e2, ih]
/-- What keeps the whole from having lists keeps a part, or there are too many trees. -/
theorem ofE_app (l m : List (Int × List Nd)) (F : Int) : (ofE (l ++ m) F = 0 → ofE l F = 0 ∧ ofE m F = 0) ∧ (ofE (l ++ m) F ≠ 0 → ofE l F ≠ 0 ∨ ofE m F ≠ 0 ∨ 65536 < (l ++ m).length) := by
  unfold ofE
  by_cases q1 : F < 0 ∨ 65536 < F
  · rw [if_pos q1, if_pos q1, if_pos q1]
    exact ⟨fun h => (by cases h), fun _ => .inl (by decide)⟩
  · rw [if_neg q1, if_neg q1, if_neg q1]
    by_cases q2 : 65536 < (l ++ m).length
    · rw [if_pos q2]
      exact ⟨fun h => (by cases h), fun _ => .inr (.inr q2)⟩
    · rw [if_neg q2, if_neg (by rw [List.length_append] at q2; omega), if_neg (by rw [List.length_append] at q2; omega), firE_app]
      by_cases q3 : firE l F ≠ 0
      · rw [if_pos q3]; exact ⟨fun h => absurd h q3, fun _ => .inl q3⟩
      · rw [if_neg q3]
        exact ⟨fun h => ⟨by simpa using q3, h⟩, fun h => .inr (.inl h)⟩
end Go.Proofs.Ytaogjiffnebnkaa
set_option linter.unusedVariables false
set_option linter.unusedSimpArgs false
namespace Go.Proofs.Ytaogjiffnebnkaa
open Go.RowKit Go.Shelf Go.Maps
attribute [local go_sem] run_store_float
theorem RdT.take {w : World} {a : Option Addr} {ts : List (Int × List Nd)} (h : RdT w a ts) (k : Nat) : RdT w a (ts.take k) := by
  intro j hj
  have hj' : j < ts.length ∧ j < k := by rw [List.length_take] at hj; omega
  have e : (ts.take k).getD j (0, []) = ts.getD j (0, []) := by simp [List.getD, List.getElem?_take, hj'.2]
  rw [e]; exact h j hj'.1

set_option maxRecDepth 100000 in
theorem slice_from {w : World} {a : Option Addr} {ts : List (Int × List Nd)} (h : RdT w a ts) {n cap k : Nat} (hn : ts.length = n) (hc : n ≤ cap) (hk : k ≤ n) : ∃ ad, (∀ wx, (Instr.slice 22 (.slice a n cap) (some (.int .i64 (k : Nat))) none none).run Try.prog wx = .ok (.slice ad (n - k) (cap - k)) wx) ∧ RdT w ad (ts.drop k) := by
  refine ⟨if cap = k then a else a.map (·.add (k * 2)), fun wx => ?_, ?_⟩
  · rw [run_slice_l wx 22 a n cap Try.underlying22 .i64 (k : Nat) (by omega) (by omega)]
    rfl
  · intro j hj
    have hj' : k + j < ts.length := by rw [List.length_drop] at hj; omega
    obtain ⟨b, o, na, nc, rfl, h1, h2, h3⟩ := h (k + j) hj'
    have e : (ts.drop k).getD j (0, []) = ts.getD (k + j) (0, []) := by simp [List.getD, List.getElem?_drop]
    rw [if_neg (by omega), e]
    refine ⟨b, o + k * 2, na, nc, by simp [Addr.add], ?_, ?_, h3⟩
    · rw [show o + k * 2 + j * 2 = o + (k + j) * 2 by omega]; exact h1
    · rw [show o + k * 2 + j * 2 + 1 = o + (k + j) * 2 + 1 by omega]; exact h2
set_option maxRecDepth 100000 in
theorem slice_upto {a : Option Addr} {n cap k : Nat} (hc : n ≤ cap) (hk : k ≤ n) : ∃ ad, (∀ wx, (Instr.slice 22 (.slice a n cap) none (some (.int .i64 (k : Nat))) none).run Try.prog wx = .ok (.slice ad k cap) wx) ∧ ∀ (w : World) (ts : List (Int × List Nd)), RdT w a ts → RdT w ad (ts.take k) := by
  refine ⟨if cap = 0 then a else a.map (·.add (0 * 2)), fun wx => ?_, ?_⟩
  · rw [run_slice_h wx 22 a n cap Try.underlying22 .i64 (k : Nat) (by omega) (by omega)]
    rfl
  · intro w ts h
    have e : (if cap = 0 then a else a.map (·.add (0 * 2))) = a ∨ ts = [] := by
      by_cases q : ts = []
      · exact .inr q
      · obtain ⟨b, o, na, nc, rfl, -⟩ := h 0 (List.length_pos_iff.2 q)
        left
        split
        · rfl
        · simp [Addr.add]
    rcases e with e | e
    · rw [e]; exact h.take k
    · subst e
      intro j hj; simp at hj
set_option maxRecDepth 100000 in
theorem wpList_slc {w : World} {ops : Array Oper} {rest : List Oper} {o : Oper} {a : Act} {Q : Exit → Act → World → Prop} (hg : o.guard = none) (x : Operand) (lo hi : Option Operand) (hop : o.op = Op.slice 22 x lo hi none) (v : Value)
    (hrun : (Instr.slice 22 (a.eval x) (lo.map a.eval) (hi.map a.eval) none).run Try.prog w = .ok v w) (hK : wpList Try.prog ops Q rest (a.put o.dst v) w) : wpList Try.prog ops Q (o :: rest) a w := by
  refine wpList_plain hg fun K' hK' => ?_
  unfold Oper.wp
  have he : (execOp a.eval o).run Try.prog w = .ok (.value v) w := by
    unfold execOp
    rw [hop]
    have hs : (Instr.sliceAt 22 (a.eval x) (lo.map a.eval) (hi.map a.eval) none).run Try.prog w = .ok v w := by
      rw [run_sliceAt_slice w 22 _ _ _ _ Try.underlying22]
      exact hrun
    simp only [Sem.run_bind, Option.map_none, hs, Result.andThen]
    rfl
  rw [he]
  exact hK' _ _ hK
end Go.Proofs.Ytaogjiffnebnkaa
set_option linter.unusedVariables false
set_option linter.unusedSimpArgs false
namespace Go.Proofs.Ytaogjiffnebnkaa
open Go.RowKit Go.Shelf Go.Maps
theorem mrg_len : ∀ (B A : List Ct), (mrg A B).length = A.length + B.length
  | [], A => by rw [mrg_nil]; rfl
  | b :: B, A => by
    have h := congrArg List.length (List.takeWhile_append_dropWhile (p := fun a => decide (kC a ≤ kC b)) (l := A))
    rw [List.length_append] at h
    rw [mrg, List.length_append, List.length_cons, mrg_len B, List.length_cons]
    omega
theorem gat_tr {L : List Nd} {nr : Int} : ∀ s ∈ gat L nr, s.2.tr = nr := by
  intro s hs
  unfold gat at hs
  obtain ⟨m, -, rfl⟩ := List.mem_map.1 hs
  rfl
/-- What is known of all cuts. -/
theorem gall_ok {w : World} {a : Option Addr} {ts : List (Int × List Nd)} {F : Int} (hr : RdT w a ts) (hT : ∀ j, j < ts.length → tkE (ts.getD j (0, [])).2 F = 0) : ∀ k, k ≤ ts.length → ∀ s ∈ gall (ts.take k), okT s.2 ∧ 0 ≤ s.2.tr ∧ s.2.tr ≤ (k : Nat)
  | 0, _, s, hs => by simp [gall] at hs
  | k + 1, hk, s, hs => by
    have hkl : k < ts.length := by omega
    have HT : ts.take (k + 1) = ts.take k ++ [ts.getD k (0, [])] := by rw [List.take_succ_eq_append_getElem hkl]; simp [List.getD, hkl]
    have hl : (ts.take k).length = k := by rw [List.length_take]; omega
    rw [HT, gall_snoc, hl] at hs
    rcases List.mem_append.1 hs with hs | hs
    · obtain ⟨h1, h2, h3⟩ := gall_ok hr hT k (by omega) s hs
      exact ⟨h1, h2, by omega⟩
    · obtain ⟨b, o, na, nc, -, -, -, hN, -⟩ := hr k hkl
      have hE := tkE_tr (hT k hkl)
      have h1 := gat_tr s hs
      exact ⟨⟨gat_th hN hE _ s hs, gat_nan hE _ s hs⟩, by omega, by omega⟩
/-- What holds of all cuts holds of those of a list. -/
theorem IsL.all {S : List (Nd × Ct)} {T : List Lst} (h : IsL S T) {R : Ct → Prop} (hR : ∀ s ∈ S, R s.2) (f : Int) : (∀ c ∈ (Go.Proofs.Ytaogjiffnebnkaa.lkp T f).ns, R c) ∧ (∀ c ∈ (Go.Proofs.Ytaogjiffnebnkaa.lkp T f).cs, R c) ∧ (∀ c ∈ (Go.Proofs.Ytaogjiffnebnkaa.lkp T f).ls, R c) := by
  obtain ⟨h1, h2, -, h4⟩ := h.lkp f
  have hs : ∀ j, ∀ c ∈ sel S f j, R c := by
    intro j c hc
    unfold sel at hc
    obtain ⟨s, hs, e⟩ := List.mem_map.1 hc
    rw [← e]
    exact hR s (List.mem_filter.1 hs).1
  refine ⟨fun c hc => hs 0 c (h4.mem hc), fun c hc => ?_, fun c hc => ?_⟩
  · rw [h1] at hc; exact hs 1 c hc
  · rw [h2] at hc; exact hs 2 c hc
theorem shf_ok {c : Ct} {z : Int} (h : okT c) : okT (shf z c) := h
end Go.Proofs.Ytaogjiffnebnkaa
set_option linter.unusedVariables false
set_option linter.unusedSimpArgs false
namespace Go.Proofs.Ytaogjiffnebnkaa
open Go.RowKit Go.Shelf Go.Maps
/-- Two lists of cuts of one's own, one behind the other. -/
theorem OC.join {L M : List Ct} {w w5 w6 w7 : World} {v5 v6 v7 : Value} {K5 K6 : List CI} (h5 : OC L w v5 w5 K5) (h6 : OC M w5 v6 w6 K6) (hO : OwnC w.heap.size w7 v7 (K5 ++ K6)) (g : w6.grownBy w7 v5.ownBlock) : OC (L ++ M) w v7 w7 (K5 ++ K6) := by
  have h56 := h5.keep h6.kp
  have hsm : ∀ {u : Value} {l : List Int}, OwnZ 3 w.heap.size w6 u l → OwnZ 3 w.heap.size w7 u l := by
    intro u l hu
    refine hu.same (fun b hb => ?_)
    obtain ⟨-, cur, hc⟩ := hu.block hb
    exact g.block b (Array.getElem?_eq_some_iff.1 hc).1 (fun e => own_ne h56.own hu hb e.symm)
  refine ⟨by rw [List.map_append, h5.eq, h6.eq], hO, fun r hr => ?_, Below.grown h56.kp g h56.kp.le (fun b hb => (h56.own.block hb).1)⟩
  rcases List.mem_append.1 hr with hr | hr
  · exact ⟨hsm (h56.cats r hr).1, (h56.cats r hr).2⟩
  · exact ⟨hsm ((h6.cats r hr).1.mono h5.kp.le), (h6.cats r hr).2⟩
/-- Where the cuts of a row of one's own lie. -/
theorem OC.src {M : List Ct} {w5 w6 : World} {v6 : Value} {K6 : List CI} (h6 : OC M w5 v6 w6 K6) : ∃ a c, v6 = .slice a K6.length c ∧ ∀ j, j < K6.length → ∃ b o, a = some ⟨b, o, none⟩ ∧ ∀ i u, i < 5 → (UC [K6.getD j ct0])[i]? = some u → w6.cell? ⟨b, o + j * 5 + i, none⟩ = some u := by
  obtain ⟨a, c, e, -, hr⟩ := h6.own.shape
  refine ⟨a, c, e, fun j hj => ?_⟩
  obtain ⟨b, rfl, hu⟩ := hr j hj
  exact ⟨b, 0, rfl, fun i u hi h => by rw [Nat.zero_add]; exact hu i u hi h⟩
theorem RC.rdl {L : List Ct} {w : World} {v : Value} {wr : World} {K : List CI} (h : RC L w v wr K) : ∃ a c, v = .slice a L.length c ∧ RdC wr a L := h.rd
end Go.Proofs.Ytaogjiffnebnkaa
set_option linter.unusedVariables false
set_option linter.unusedSimpArgs false
namespace Go.Proofs.Ytaogjiffnebnkaa
open Go.RowKit Go.Shelf Go.Maps
/-- The sums of a round, as numbers. -/
theorem rnd_sums {c a b d e tn tc C1 CT : Nat} (h1 : C1 = c + (tn + tc)) (h2 : C1 ≤ CT) (h3 : CT ≤ 268435456) (h4 : tn = a + b) (h5 : tc = d + e) :
    (a ≤ 268435456 ∧ b ≤ 268435456 ∧ d ≤ 268435456 ∧ e ≤ 268435456) ∧ wrap64 ((c : Int) + (a : Int)) = (c : Int) + (a : Int) ∧ wrap64 ((c : Int) + (a : Int) + (d : Int)) = (c : Int) + (a : Int) + (d : Int) ∧ wrap64 ((c : Int) + (a : Int) + (d : Int) + (b : Int)) = (c : Int) + (a : Int) + (d : Int) + (b : Int) ∧ wrap64 ((c : Int) + (a : Int) + (d : Int) + (b : Int) + (e : Int)) = (c : Int) + (a : Int) + (d : Int) + (b : Int) + (e : Int) ∧ (c : Int) + (a : Int) + (d : Int) + (b : Int) + (e : Int) = (C1 : Nat) := by
  refine ⟨⟨by omega, by omega, by omega, by omega⟩, ?_, ?_, ?_, ?_, by omega⟩
  all_goals unfold wrap64; omega
end Go.Proofs.Ytaogjiffnebnkaa
set_option linter.unusedVariables false
set_option linter.unusedSimpArgs false
namespace Go.Proofs.Ytaogjiffnebnkaa
open Go.RowKit Go.Shelf Go.Maps
theorem cnt_take {T : List Lst} {i : Nat} (hi : i < T.length) : cnt (T.take (i + 1)) = cnt (T.take i) + ((T.getD i lst0).ns.length + (T.getD i lst0).cs.length) := by
  rw [List.take_succ_eq_append_getElem hi, cnt_snoc]; simp [List.getD, hi]
theorem cnt_app (A B : List Lst) : cnt (A ++ B) = cnt A + cnt B := by simp [cnt]
theorem cnt_le {T : List Lst} (i : Nat) : cnt (T.take i) ≤ cnt T := by
  have h := cnt_app (T.take i) (T.drop i)
  rw [List.take_append_drop] at h
  omega
theorem wrap_sm {x : Int} (h0 : -4294967296 ≤ x) (h1 : x ≤ 4294967296) : wrap64 x = x := by unfold wrap64; omega
theorem IsL.ls_le {S : List (Nd × Ct)} {T : List Lst} (h : IsL S T) (f : Int) : (Go.Proofs.Ytaogjiffnebnkaa.lkp T f).ls.length ≤ Go.Proofs.Ytaogjiffnebnkaa.cnt T := by
  obtain ⟨-, h2, -, -⟩ := h.lkp f
  rw [h2, h.cnt]
  unfold sel
  rw [List.length_map]
  exact List.length_filter_le _ _
theorem mk10 {a0 a1 a2 a3 a4 a5 a6 a7 a8 a9 : Prop} (h0 : a0) (h1 : a1) (h2 : a2) (h3 : a3) (h4 : a4) (h5 : a5) (h6 : a6) (h7 : a7) (h8 : a8) (h9 : a9) : a0 ∧ a1 ∧ a2 ∧ a3 ∧ a4 ∧ a5 ∧ a6 ∧ a7 ∧ a8 ∧ a9 := ⟨h0, h1, h2, h3, h4, h5, h6, h7, h8, h9⟩
/-- 'on', with its length as a letter. -/
theorem on_rd (a : Option Addr) (c : Nat) (L : List Ct) (n : Nat) (hn : L.length = n) (z : Int) (w : World) (hLn : n ≤ 268435456) (ha : RdC w a L) (hz : 0 ≤ z ∧ z ≤ 65536) (ht : ∀ x ∈ L, okT x ∧ 0 ≤ x.tr ∧ x.tr ≤ 65536) :
    Calls Try.prog 30 #[.slice a n c, .int .i64 z] w fun e w' => ∃ a' c', e = .returned (.slice a' n c') ∧ Keep w w' ∧ RdC w' a' (L.map (shf z)) :=
  (on_any a c L n hn z w (by omega) ha hz (fun x hx => (ht x hx).2)).mono fun e w' ⟨v, he, K, h⟩ => by
    obtain ⟨a', c', rfl, -, r⟩ := h.rd
    rw [List.length_map, hn] at he
    exact ⟨a', c', he, h.kp, r⟩
theorem mrg_rd (a b : Option Addr) (ca cb : Nat) (A B M : List Ct) (n m q : Nat) (hn : A.length = n) (hm : B.length = m) (hM : M = mrg A B) (hq : M.length = q) (w : World) (hnm : n + m ≤ 1099511627776) (hca : n ≤ ca) (ha : RdC w a A) (hb : RdC w b B) (hA : ∀ x ∈ A, okT x) (hB : ∀ x ∈ B, okT x) :
    Calls Try.prog 29 #[.slice a n ca, .slice b m cb] w fun e w' => ∃ a' c', e = .returned (.slice a' q c') ∧ Keep w w' ∧ RdC w' a' M :=
  (merged_any a b ca cb A B n m hn hm w hnm hca ha hb hA hB).mono fun e w' ⟨v, he, K, h⟩ => by
    obtain ⟨a', c', rfl, r⟩ := h.rdl
    rw [← hM] at r he
    rw [hq] at he
    exact ⟨a', c', he, h.kp, r⟩
/-- Copied, with its length as a letter. -/
theorem cop_src (a : Option Addr) (c : Nat) (L : List Ct) (n : Nat) (hn : L.length = n) (w : World) (hLn : n ≤ 268435456) (ha : RdC w a L) :
    Calls Try.prog 14 #[.slice a n c] w fun e w' => ∃ v K, e = .returned v ∧ OC L w v w' K := by
  subst hn
  exact (CopiedB_any a c L w (by omega) ha).mono fun e w' ⟨v, he, K, h⟩ => ⟨v, K, he, h⟩
theorem on_src (a : Option Addr) (c : Nat) (L : List Ct) (n : Nat) (hn : L.length = n) (z : Int) (w : World) (hLn : n ≤ 268435456) (ha : RdC w a L) (hz : 0 ≤ z ∧ z ≤ 65536) (ht : ∀ x ∈ L, okT x ∧ 0 ≤ x.tr ∧ x.tr ≤ 65536) :
    Calls Try.prog 30 #[.slice a n c, .int .i64 z] w fun e w' => ∃ a' m' c' K, e = .returned (.slice a' m' c') ∧ Hid (OC (L.map (shf z)) w (.slice a' m' c') w' K ∧ K.length = m' ∧ m' ≤ 268435456 ∧ ∀ j, j < K.length → ∃ b o, a' = some ⟨b, o, none⟩ ∧ ∀ i u, i < 5 → (UC [K.getD j ct0])[i]? = some u → w'.cell? ⟨b, o + j * 5 + i, none⟩ = some u) :=
  (on_any a c L n hn z w (by omega) ha hz (fun x hx => (ht x hx).2)).mono fun e w' ⟨v, he, K, h⟩ => by
    obtain ⟨a', c', rfl, r⟩ := h.src
    exact ⟨a', K.length, c', K, he, h, rfl, by rw [h.len, List.length_map]; omega, r⟩
theorem OC.fit {L : List Ct} {w : World} {v : Value} {wr : World} {K : List CI} (h : OC L w v wr K) (h1 : L.length ≤ 268435456) {m : Nat} (h2 : m ≤ 268435456) : K.length + m ≤ 1099511627776 := by have := h.len; omega
/-- Both, one behind the other. -/
theorem OC.fin {L M X : List Ct} {w w5 w6 w7 : World} {v5 v6 v7 : Value} {K5 K6 : List CI} {q : Nat} (h5 : OC L w v5 w5 K5) (h6 : OC M w5 v6 w6 K6) (hO : OwnC w.heap.size w7 v7 (K5 ++ K6)) (g : w6.grownBy w7 v5.ownBlock) (hX : X = L ++ M) (hq : X.length = q) : ∃ a c, v7 = .slice a q c ∧ Keep w w7 ∧ RdC w7 a X := by
  have h := h5.join h6 hO g
  obtain ⟨a, c, e, -, r⟩ := h.rd
  rw [← hX] at r e
  rw [hq] at e
  exact ⟨a, c, e, h.kp, r⟩
/-- append(l, cuts...) as a step of a region, under a guard that says yes. -/
theorem step_appCsW {ops : Array Oper} {o : Oper} {a : Act} {K : Act → World → Prop} {Q : Exit → Act → World → Prop} {X : Prop} {w : World} (B : Nat) (hw : Region.wanted o (yielded ops a.tmps) = true) (s x : Operand)
    (hop : o.op = .call { callee := .builtin .append, args := #[s, x], argTypes := #[31, 31] }) (l Z : List CI) (v : Value) (hs : a.eval s = v) (hown : OwnC B w v l) (hB : B ≤ w.heap.size) (ad : Option Addr) (m c : Nat) (hx : a.eval x = .slice ad m c) (hm : Z.length = m)
    (hn : ∀ j, j < Z.length → ∃ b o, ad = some ⟨b, o, none⟩ ∧ ∀ i u, i < 5 → (UC [Z.getD j ct0])[i]? = some u → w.cell? ⟨b, o + j * 5 + i, none⟩ = some u) (hlen : l.length + m ≤ 1099511627776)
    (hK : ∀ v' w', OwnC B w' v' (l ++ Z) → w.grownBy w' v.ownBlock → K (a.put o.dst v') w') :
    if Region.wanted o (yielded ops a.tmps) = true then Oper.wp Try.prog o a w K Q else X := by
  rw [if_pos hw]
  obtain ⟨v', w', hrun, r1, r2⟩ := appCs B w o.type v l Z hown hB ad m c hm hn hlen
  unfold Oper.wp
  simp [execOp, hop, resolve, invoke, builtin, hs, hx, hrun, Result.andThen]
  exact hK v' w' r1 r2
end Go.Proofs.Ytaogjiffnebnkaa
