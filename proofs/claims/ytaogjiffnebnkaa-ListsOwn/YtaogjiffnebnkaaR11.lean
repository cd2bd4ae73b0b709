import Derived.Test.YtaogjiffnebnkaaR9
set_option linter.unusedVariables false
set_option linter.unusedSimpArgs false
namespace Go.Proofs.Ytaogjiffnebnkaa
open Go.RowKit Go.Shelf Go.Maps
/-- All cuts of some trees, in their order. -/
noncomputable def gall (ts : List (Int × List Nd)) : List (Nd × Ct) := ts.zipIdx.flatMap fun p => gat p.1.2 (p.2 : Nat)
theorem gall_snoc (ts : List (Int × List Nd)) (t : Int × List Nd) : gall (ts ++ [t]) = gall ts ++ gat t.2 (ts.length : Nat) := by
  unfold gall
  rw [List.zipIdx_append, List.flatMap_append]
  simp
theorem gat_len {L : List Nd} (h : trE L = 0) (nr : Int) : (gat L nr).length ≤ 4096 := by
  unfold gat; rw [List.length_map]; exact (mkl_ok h).1
theorem tkE_tr {L : List Nd} {F : Int} (h : tkE L F = 0) : trE L = 0 := by
  unfold tkE at h
  by_cases q : trE L = 0
  · exact q
  · rw [if_pos q] at h; exact absurd h q
theorem gat_th {w : World} {a : Option Addr} {L : List Nd} (hr : RdN w a L) (h : trE L = 0) (nr : Int) : ∀ s ∈ gat L nr, s.2.th < 18446744073709551616 := by
  intro s hs
  unfold gat at hs
  obtain ⟨m, hm, rfl⟩ := List.mem_map.1 hs
  obtain ⟨h1, -⟩ := (mkl_ok h).2 m hm
  obtain ⟨b, o, ca, cap, e, hn⟩ := hr m.1 h1
  exact hn.ok.th
/-- What keeps trees from having lists. -/
noncomputable def firE : List (Int × List Nd) → Int → Int
  | [], _ => 0
  | t :: ts, F => if tkE t.2 F ≠ 0 then tkE t.2 F else firE ts F
noncomputable def ofE (ts : List (Int × List Nd)) (F : Int) : Int := if F < 0 ∨ 65536 < F then 2 else if 65536 < ts.length then 3 else firE ts F
theorem firE_at {F : Int} : ∀ (ts : List (Int × List Nd)) (k : Nat), k < ts.length → (∀ j, j < k → tkE (ts.getD j (0, [])).2 F = 0) → tkE (ts.getD k (0, [])).2 F ≠ 0 → firE ts F = tkE (ts.getD k (0, [])).2 F
  | [], k, hk, _, _ => by simp at hk
  | t :: ts, 0, _, _, h => by
    simp only [List.getD_cons_zero] at h ⊢
    unfold firE; rw [if_pos h]
  | t :: ts, k + 1, hk, hj, h => by
    simp only [List.getD_cons_succ] at h ⊢
    have h0 := hj 0 (by omega)
    simp only [List.getD_cons_zero] at h0
    unfold firE; rw [if_neg (by simpa using h0)]
    exact firE_at ts k (by simpa using hk) (fun j q => by have := hj (j + 1) (by omega); simpa using this) h
theorem firE_none {F : Int} : ∀ (ts : List (Int × List Nd)), (∀ j, j < ts.length → tkE (ts.getD j (0, [])).2 F = 0) → firE ts F = 0
  | [], _ => rfl
  | t :: ts, hj => by
    have h0 := hj 0 (by simp)
    simp only [List.getD_cons_zero] at h0
    unfold firE; rw [if_neg (by simpa using h0)]
    exact firE_none ts fun j q => by have := hj (j + 1) (by simpa using q); simpa using this
end Go.Proofs.Ytaogjiffnebnkaa
set_option linter.unusedVariables false
set_option linter.unusedSimpArgs false
namespace Go.Proofs.Ytaogjiffnebnkaa
open Go.RowKit Go.Shelf Go.Maps
attribute [local go_sem] run_store_float
/-- The lists of trees, as they lie. -/
def LsAt (w0 w' : World) (v : Value) (X : GX) (A : List Nat) (M : Nat → List CI) : Prop := GW w0.heap.size w' (X.wth M) ∧ A.length = X.n ∧ (A.Pairwise fun i j => X.f i < X.f j) ∧ (∀ i, i ∈ A ↔ i < X.n) ∧ (∀ i, i < X.n → srt Cu.kI (M i) ∧ eqv Cu.kI (M i) (X.K i 0)) ∧
      ((v = .slice none 0 0 ∧ A = []) ∨ ∃ g c, ∃ cur : Array Value, v = .slice (some ⟨g, 0, none⟩) A.length c ∧ A.length ≤ c ∧ w0.heap.size ≤ g ∧ w'.heap[g]? = some (.cells cur 33 (0, 0)) ∧ cur.toList.take (A.length * 4) = UL (A.map (item X)) ∧ ∀ i, i < X.n → X.bx i ≠ g)
theorem Con_th {X : GX} {S : List (Nd × Ct)} (h : Con X S) (hS : ∀ s ∈ S, s.2.th < 18446744073709551616) {i : Nat} (hi : i < X.n) : Cu.F64 (X.K i 0) := by
  intro x hx
  have hm : x.1 ∈ (X.K i 0).map (fun r => r.1) := List.mem_map.2 ⟨x, hx, rfl⟩
  rw [h.con i hi 0 (by omega)] at hm
  unfold sel at hm
  obtain ⟨s, hs, e⟩ := List.mem_map.1 hm
  rw [← e]
  exact hS s (List.mem_filter.1 hs).1
set_option maxRecDepth 100000 in
set_option maxHeartbeats 4000000 in
theorem Of_any (a : Option Addr) (cap : Nat) (ts : List (Int × List Nd)) (F : Int) (w : World) (ht : RdT w a ts) :
    Calls Try.prog 10 #[.slice a ts.length cap, .int .i64 F] w fun e w' => ∃ v, e = .returned (.tuple #[v, .int .i64 (ofE ts F)]) ∧ Keep w w' ∧ (ofE ts F ≠ 0 → v = .slice none 0 0) ∧ (ofE ts F = 0 → ∃ X A M, Con X (gall ts) ∧ LsAt w w' v X A M) := by
  obtain ⟨n, hn⟩ : ∃ n, ts.length = n := ⟨_, rfl⟩
  rw [hn]
  by_cases h0 : F < 0 ∨ 65536 < F
  · have hx : Hid (ofE ts F = 2) := by show _ = _; unfold ofE; rw [if_pos h0]
    have hr : w = w := rfl
    by_cases h1 : F < 0
    · have c1 : F < 0 := h1
      clear h0
      go_enter Try.func10, Try.ntmps10
      go_wp2_with fail
      try simp only [Exit.inBlock, Exit.then]
      refine bodyPost_ret (results_tmp2 rfl _ _ _) rfl ?_
      exact ⟨_, by rw [hx.out]; rfl, Keep.refl w, fun _ => rfl, fun h => by rw [hx.out] at h; cases h⟩
    · have c1 : ¬ F < 0 := h1
      have c2 : 65536 < F := by omega
      clear h0
      go_enter Try.func10, Try.ntmps10
      go_wp2_with fail
      try simp only [Exit.inBlock, Exit.then]
      refine bodyPost_ret (results_tmp2 rfl _ _ _) rfl ?_
      exact ⟨_, by rw [hx.out]; rfl, Keep.refl w, fun _ => rfl, fun h => by rw [hx.out] at h; cases h⟩
  · have c1 : ¬ F < 0 := by omega
    have c2 : ¬ 65536 < F := by omega
    by_cases h2 : 65536 < n
    · have c3 : (65536 : Int) < (n : Int) := by omega
      have hx : Hid (ofE ts F = 3) := by show _ = _; unfold ofE; rw [if_neg h0, hn, if_pos h2]
      clear h0
      go_enter Try.func10, Try.ntmps10
      go_wp2_with fail
      try simp only [Exit.inBlock, Exit.then]
      refine bodyPost_ret (results_tmp2 rfl _ _ _) rfl ?_
      exact ⟨_, by rw [hx.out]; rfl, Keep.refl w, fun _ => rfl, fun h => by rw [hx.out] at h; cases h⟩
    · have c3 : ¬ (65536 : Int) < (n : Int) := by omega
      have hn6 : Hid (n ≤ 65536) := by show _ ≤ _; omega
      have hx : Hid (ofE ts F = firE ts F) := by show _ = _; unfold ofE; rw [if_neg h0, hn, if_neg h2]
      have hmm := @run_makeMap Try.prog
      have hG0 : Hid (GI w.heap.size (w.alloc (.map #[] 0)) w.heap.size GX.nil) := GI.nil _ w (Nat.le_refl _)
      have hk0 : Hid (Keep w (w.alloc (.map #[] 0))) := (Keep.refl w).alloc _
      clear h0
      replace ht : Hid _ := ht
      go_enter Try.func10, Try.ntmps10
      go_wp2_with fail
      go_loopw [24] (fun iv wr => ∃ (k : Nat) (X : GX), iv = .int .i64 (k : Int) ∧ k ≤ n ∧ GI w.heap.size wr w.heap.size X ∧ Hid (Con X (gall (ts.take k))) ∧ Hid (X.n ≤ (gall (ts.take k)).length) ∧ Hid ((gall (ts.take k)).length ≤ k * 4096) ∧ Keep w wr ∧ Hid (∀ j, j < k → tkE (ts.getD j (0, [])).2 F = 0) ∧ Hid (∀ s ∈ gall (ts.take k), s.2.th < 18446744073709551616)) (fun iv _ => n - (intOf iv).toNat)
      case atStart => exact ⟨0, GX.nil, rfl, by omega, hG0.out, Con.nil, Nat.le_refl _, Nat.le_refl _, hk0.out, fun j hj => by omega, fun s hs => by cases hs⟩
      case round =>
        obtain ⟨k, X, rfl, hk, hG, hC, hX, hgl, kw, hj, hth⟩ := hrel
        by_cases hkl : k < n
        · have hkc : (k : Int) < (n : Int) := by omega
          have hk1 : Hid (k + 1 ≤ n) := hkl
          have hkl' : k < ts.length := by omega
          obtain ⟨b, o, na, nc, rfl, t0, t1, hN, -, hsz, -⟩ := ht.out k hkl'
          have c5 := kw.cell t0
          have c6 := kw.cell t1
          have HT : Hid (ts.take (k + 1) = ts.take k ++ [ts.getD k (0, [])]) := by
            show _ = _
            rw [List.take_succ_eq_append_getElem hkl']; simp [List.getD, hkl']
          have HE : Hid (∀ j, j < k → tkE (ts.getD j (0, [])).2 F = 0) := hj
          have HF : Hid (tkE (ts.getD k (0, [])).2 F ≠ 0 → firE ts F = tkE (ts.getD k (0, [])).2 F) := fun h => firE_at ts k hkl' hj.out h
          have HJ : Hid (tkE (ts.getD k (0, [])).2 F = 0 → ∀ j, j < k + 1 → tkE (ts.getD j (0, [])).2 F = 0) := by
            intro h j hjk
            by_cases q : j = k
            · rw [q]; exact h
            · exact hj.out j (by omega)
          have HL : Hid ((ts.take k).length = k) := by show _ = _; rw [List.length_take]; omega
          generalize ts.getD k (0, []) = t at *
          obtain ⟨out, L⟩ := t
          simp only at c5 c6 hN hsz
          obtain ⟨wA, hwA⟩ : ∃ wA, wr.alloc (Obj.cells #[Value.int .i64 out, .slice na L.length nc] 54) = wA := ⟨_, rfl⟩
          have kA : Keep wr wA := by rw [← hwA]; exact (Keep.refl wr).alloc _
          have rA : wA.heap[wr.heap.size]? = some (Obj.cells #[Value.int .i64 out, .slice na L.length nc] 54 (0, 0)) := by rw [← hwA]; exact heap_alloc_new wr _
          have A0 := cell_of_row wA _ 0 _ 54 (0, 0) rA
          have A1 := cell_of_row wA _ 1 _ 54 (0, 0) rA
          simp at A0 A1
          rw [← hwA] at A0 A1
          replace rA : Hid _ := rA
          replace hwA : Hid _ := hwA
          have hT := take_any w wA w.heap.size X (gall (ts.take k)) (hG.keep kA) hC.out (Keep.trans kw kA) na nc out (k : Int) F L hsz hN (by have := hgl.out; have := hn6.out; omega) hX.out
          by_cases hE : tkE L F = 0
          · have c7 : (tkE L F != 0) = false := by rw [bne_eq_false_iff_eq]; exact hE
            replace hE : Hid _ := hE
            go_wp2_with (first | (go_at_call 33; rw [hwA.out]; refine hT.mono ?_; rintro e w5 ⟨rfl, k5, kt5, h5⟩))
            obtain ⟨X', g1, g2, g3⟩ := h5 hE.out
            have hb1 := hk1.out
            have hw : ((k : Int) + 1) = ((k + 1 : Nat) : Int) := rfl
            rw [hw]
            have hgl2 := gat_len (tkE_tr hE.out) (k : Int)
            have HS : Hid (gall (ts.take (k + 1)) = gall (ts.take k) ++ gat L (k : Int)) := by show _ = _; rw [HT.out, gall_snoc, HL.out]
            refine ⟨⟨k + 1, X', rfl, hb1, g1, ?_, ?_, ?_, k5, HJ.out hE.out, ?_⟩, ?_⟩
            · show Con _ _
              rw [HS.out]; exact g2
            · show _ ≤ _
              rw [HS.out, List.length_append]; exact Nat.le_trans g3 (Nat.add_le_add_right (Nat.le_refl _) _)
            · show _ ≤ _
              rw [HS.out, List.length_append, Nat.succ_mul]
              exact Nat.add_le_add hgl.out hgl2
            · intro s hs
              rw [HS.out] at hs
              rcases List.mem_append.1 hs with hs | hs
              · exact hth.out s hs
              · exact gat_th hN (tkE_tr hE.out) _ s hs
            · exact left_down hb1
          · have c7 : (tkE L F != 0) = true := bne_iff_ne.2 hE
            have hR := HF.out hE
            replace hE : Hid _ := hE
            replace hR : Hid _ := hR
            go_wp2_with (first | (go_at_call 33; rw [hwA.out]; refine hT.mono ?_; rintro e w5 ⟨rfl, k5, kt5, h5⟩))
            try simp only [Exit.inBlock, Exit.then]
            refine bodyPost_ret (results_tmp2 rfl _ _ _) rfl ?_
            have hq : ofE ts F = tkE L F := hx.out.trans hR.out
            exact ⟨_, by rw [hq]; rfl, k5, fun _ => rfl, fun h => absurd (hq.symm.trans h) hE.out⟩
        · have hkc : ¬ (k : Int) < (n : Int) := by omega
          obtain rfl : k = n := by omega
          have hx0 : Hid (ofE ts F = 0) := by
            show _ = _
            rw [hx.out]
            exact firE_none ts fun j hj' => hj.out j (by omega)
          have htk : ts.take k = ts := by rw [← hn, List.take_length]
          rw [htk] at hC hX hgl hth
          have hXl : X.n ≤ 268435456 := by have := hX.out; have := hgl.out; have := hn6.out; omega
          have hLi := lists_any w wr w.heap.size X hG kw (fun i hi => Con_th hC.out hth.out hi) (fun i hi => by have := hC.out.len hi (j := 0) (by omega); have := hgl.out; have := hn6.out; omega) (by omega)
          go_wp2_with (first | (go_at_call 34; refine hLi.mono ?_; rintro e w5 ⟨v, A, M, rfl, k5, h5⟩))
          try simp only [Exit.inBlock, Exit.then]
          refine bodyPost_ret (results_tmp2 rfl _ _ _) rfl ?_
          exact ⟨v, by rw [hx0.out]; rfl, k5, fun h => absurd hx0.out h, fun _ => ⟨X, A, M, hC.out, h5⟩⟩
end Go.Proofs.Ytaogjiffnebnkaa
