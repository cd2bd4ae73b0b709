import Derived.Test.YtaogjiffnebnkaaV9
import Derived.Test.YtaogjiffnebnkaaTS6
import Derived.Test.YtaogjiffnebnkaaTS9
set_option linter.unusedVariables false
set_option linter.unusedSimpArgs false
namespace Go.Proofs.Ytaogjiffnebnkaa
open Go.RowKit Go.Shelf Go.Maps
attribute [local go_sem] run_store_float
set_option maxRecDepth 100000 in
set_option maxHeartbeats 2000000 in
theorem copied_any (a : Option Addr) (cap : Nat) (ts : List (Int × List Nd)) (n : Nat) (hn : ts.length = n) (w : World) (ht : RdT w a ts) (htl : n ≤ 4398046511104) (hts : ∀ j, j < ts.length → (ts.getD j (0, [])).2.length ≤ 1759218604441) :
    Calls Try.prog 9 #[.slice a n cap] w fun e w' => ∃ a' c', e = .returned (.slice a' n c') ∧ RdT w' a' ts ∧ Keep w w' := by
  subst hn
  have hC := rCopy_any ByteArray.empty none [] 0 0 none [] 0 a ts cap w (fun j hj => by simp at hj) (by simp) (fun j hj => by simp at hj) (by simp) ht htl hts
  unfold ens at hC
  simp only [List.length_nil] at hC
  generalize ts.length = n at *
  go_enter Try.func9, Try.ntmps9
  go_wp2_with (go_at_call 32; refine hC.mono ?_; rintro e w2 ⟨fa', cf', ba', cb', ta', ct', rfl, -, -, -, -, hR, -, k2⟩)
  go_ret
  exact ⟨_, _, rfl, hR.keep ((Keep.refl w2).alloc _), k2.alloc _⟩
set_option maxRecDepth 100000 in
set_option maxHeartbeats 2000000 in
theorem kept_any (a b : Option Addr) (ca cb : Nat) (ts : List (Int × List Nd)) (n : Nat) (hn : ts.length = n) (w : World) (ha : RdT w a ts) (hb : RdT w b ts) (htl : n ≤ 4398046511104) :
    Calls Try.prog 13 #[.slice a n ca, .slice b n cb] w fun e w' => e = .returned (.bool true) ∧ Keep w w' := by
  subst hn
  have hC := rSame_any ByteArray.empty none [] 0 0 none [] 0 a ts ca ByteArray.empty none [] 0 0 none [] 0 b ts cb w (fun j hj => by simp at hj) (by simp) (fun j hj => by simp at hj) (by simp) ha htl (fun j hj => by simp at hj) (fun j hj => by simp at hj) hb
  rw [show (@decide (EnsEq ByteArray.empty [] 0 [] ts ByteArray.empty [] 0 [] ts) (Classical.propDecidable _)) = true from by simp [EnsEq]] at hC
  unfold ens at hC
  simp only [List.length_nil] at hC
  generalize ts.length = n at *
  go_enter Try.func13, Try.ntmps13
  go_wp2_with (go_at_call 38; refine hC.mono ?_; rintro e w2 ⟨rfl, k2⟩)
  go_ret
  exact ⟨rfl, k2⟩
theorem ofE_small {ts : List (Int × List Nd)} {F : Int} (h : ofE ts F = 0) : ts.length ≤ 65536 ∧ ∀ j, j < ts.length → tkE (ts.getD j (0, [])).2 F = 0 := by
  unfold ofE at h
  by_cases q1 : F < 0 ∨ 65536 < F
  · rw [if_pos q1] at h; cases h
  · rw [if_neg q1] at h
    by_cases q2 : 65536 < ts.length
    · rw [if_pos q2] at h; cases h
    · rw [if_neg q2] at h
      exact ⟨by omega, firE_zero ts h⟩
theorem nodup_len : ∀ {a b : List Int}, a.Nodup → a ⊆ b → a.length ≤ b.length
  | [], b, _, _ => Nat.zero_le _
  | x :: a, b, hn, hs => by
    obtain ⟨h1, h2⟩ := List.nodup_cons.1 hn
    have hx : x ∈ b := hs List.mem_cons_self
    have h3 : a ⊆ b.erase x := by
      intro y hy
      refine (List.mem_erase_of_ne ?_).2 (hs (List.mem_cons_of_mem _ hy))
      intro e; rw [e] at hy; exact h1 hy
    have h4 := nodup_len h2 h3
    rw [List.length_erase_of_mem hx] at h4
    have h5 : 0 < b.length := List.length_pos_of_mem hx
    simp only [List.length_cons]
    omega
/-- What Of answers, as lists that can be read. -/
theorem of_rd {w w' : World} {v : Value} {ts : List (Int × List Nd)} {F : Int} (hE : ofE ts F = 0) {X : GX} {A : List Nat} {M : Nat → List CI} (hX : Con X (gall ts)) (hA : LsAt w w' v X A M) : ∃ a c, v = .slice a (A.map (lstP X M)).length c ∧ RdL w' a (A.map (lstP X M)) ∧ (A.map (lstP X M)).length ≤ 1099511627776 := by
  obtain ⟨h1, h2⟩ := ofE_small hE
  have hg := gall_len h2 ts.length (Nat.le_refl _)
  rw [List.take_length] at hg
  obtain ⟨hW, hl, hP, hm, hM, hv⟩ := hA
  have hrow : RowL w' v (A.map (item X)) := by
    rcases hv with ⟨e1, e2⟩ | ⟨g, c, cur, e1, -, -, e2, e3, -⟩
    · exact .inl ⟨e1, by rw [e2]; rfl⟩
    · exact .inr ⟨g, c, cur, by rw [List.length_map]; exact e1, e2, by rw [List.length_map]; exact e3⟩
  have hKl : ∀ i, i < X.n → ∀ j, j < 3 → ((X.wth M).K i j).length ≤ 1099511627776 := by
    intro i hi j hj
    have h3 : (X.K i j).length ≤ (gall ts).length := hX.len hi hj
    by_cases q : j = 0
    · subst q
      have e : ((X.wth M).K i 0).length = (X.K i 0).length := (hM i hi).2.len
      rw [e]; omega
    · have e : (X.wth M).K i j = X.K i j := by simp only [GX.wth]; rw [if_neg q]
      rw [e]; omega
  obtain ⟨a, c, e, r⟩ := hrow.rd (M := M) (fun i hi j hj => hW.row i ((hm i).1 hi) j hj) (fun i hi j hj => hW.cat i ((hm i).1 hi) j hj) (fun i hi => hKl i ((hm i).1 hi))
  have hXl : A.length ≤ (gall ts).length := by
    have hnd : (A.map X.f).Nodup := by
      show List.Pairwise _ _
      rw [List.pairwise_map]
      exact hP.imp fun h => by omega
    have hsub : A.map X.f ⊆ (gall ts).map fun s => s.1.ft := by
      intro φ hφ
      obtain ⟨i, hi, e⟩ := List.mem_map.1 hφ
      obtain ⟨s, hs, q⟩ := (hX.mem φ).2 ⟨i, (hm i).1 hi, e⟩
      exact List.mem_map.2 ⟨s, hs, q⟩
    have := nodup_len hnd hsub
    simpa using this
  exact ⟨a, c, by rw [List.length_map]; exact e, r, by rw [List.length_map]; omega⟩
end Go.Proofs.Ytaogjiffnebnkaa
set_option linter.unusedVariables false
set_option linter.unusedSimpArgs false
namespace Go.Proofs.Ytaogjiffnebnkaa
open Go.RowKit Go.Shelf Go.Maps
attribute [local go_sem] run_store_float
theorem wth_self (Y : GX) (i j : Nat) : (Y.wth fun i => Y.K i 0).K i j = Y.K i j := by
  simp only [GX.wth]
  split
  · rename_i q; rw [q]
  · rfl
/-- What the reference's Of answers, read as what the program's answers. -/
theorem rof_rd {w w' : World} {v : Value} {ts : List (Int × List Nd)} {F : Int} (hE : ofE ts F = 0) {Y : GX} {B : List Nat} (hY : ConR Y (gall ts)) (hB : RsAt w w' v Y B) : ∃ a c, v = .slice a B.length c ∧ RdL w' a (B.map (lstP Y fun i => Y.K i 0)) := by
  obtain ⟨h1, h2⟩ := ofE_small hE
  have hg := gall_len h2 ts.length (Nat.le_refl _)
  rw [List.take_length] at hg
  obtain ⟨hr, hc, hO, hp, -⟩ := hB
  have hm : ∀ i ∈ B, i < Y.n := fun i hi => List.mem_range.1 (hp.mem_iff.1 hi)
  refine hO.row.rd (B := w.heap.size) (M := fun i => Y.K i 0) (fun i hi j hj => ?_) (fun i hi j hj => ?_) (fun i hi j hj => ?_)
  · rw [wth_self]; exact (hr i (hm i hi) j hj).wr
  · rw [wth_self]; exact hc i (hm i hi) j hj
  · rw [wth_self]
    have := hY.len (hm i hi) hj
    omega
set_option maxRecDepth 100000 in
set_option maxHeartbeats 2000000 in
theorem law_of (a : Option Addr) (cap : Nat) (ts : List (Int × List Nd)) (F : Int) (w : World) (ht : RdT w a ts) (htl : ts.length ≤ 4398046511104) (hts : ∀ j, j < ts.length → (ts.getD j (0, [])).2.length ≤ 1759218604441) :
    Calls Try.prog 3 #[.slice a ts.length cap, .int .i64 F] w fun e w' => e = .returned (.bool true) ∧ Keep w w' := by
  have hC := copied_any a cap ts ts.length rfl w ht htl hts
  have hO := fun (a' : Option Addr) (c' : Nat) (wx : World) (h : RdT wx a' ts) => Of_any a' c' ts F wx h
  have hR := fun (wx : World) (h : RdT wx a ts) => rOf_any a cap ts F wx h
  have hK := fun (a' : Option Addr) (c' : Nat) (wx : World) (h : RdT wx a' ts) (h2 : RdT wx a ts) => kept_any a' a c' cap ts ts.length rfl wx h h2 htl
  obtain ⟨n, hn⟩ : ∃ n, ts.length = n := ⟨_, rfl⟩
  rw [hn] at hC hO hR hK ⊢
  have HT : Hid (RdT w a ts) := ht
  clear ht htl hts hn
  obtain ⟨E, hE⟩ : ∃ E, ofE ts F = E := ⟨_, rfl⟩
  rw [hE] at hO hR
  have HE : Hid (ofE ts F = E) := hE
  clear hE
  have eE : (E == E) = true := by simp
  replace hO : Hid _ := hO
  replace hR : Hid _ := hR
  replace hK : Hid _ := hK
  by_cases q : E = 0
  · have HQ : Hid (E = 0) := q
    clear q
    go_enter Try.func3, Try.ntmps3
    go_wp2_with (first
      | (go_at_call 9; refine hC.mono ?_; rintro e w2 ⟨a2, c2, rfl, hR2, k2⟩; clear hC; replace hR2 : Hid _ := hR2)
      | (go_at_call 10; refine (hO.out a2 c2 w2 hR2.out).mono ?_; rintro e w3 ⟨v3, rfl, k3, -, h3⟩; obtain ⟨X, A, M, hX, hA⟩ := h3 HQ.out; obtain ⟨a3, c3, rfl, r3, b3⟩ := of_rd (HE.out.trans HQ.out) hX hA; clear hO h3; have HA3 : Hid _ := hA; have HX3 : Hid _ := hX; clear hA hX; generalize hT3 : A.map (lstP X M) = T at r3 b3 ⊢; replace hT3 : Hid _ := hT3; replace r3 : Hid _ := r3; replace b3 : Hid _ := b3)
      | (go_at_call 11; refine (hR.out w3 (RdT.keep HT.out (k2.trans k3))).mono ?_; rintro e w4 ⟨v4, rfl, k4, -, h4⟩; obtain ⟨Y, hY, B, hB⟩ := h4 HQ.out; obtain ⟨a4, c4, rfl, r4⟩ := rof_rd (HE.out.trans HQ.out) hY hB; have eT : A.map (lstP X M) = B.map (lstP Y fun i => Y.K i 0) := lists_eq HX3.out HA3.out.2.2.1 HA3.out.2.2.2.1 HA3.out.2.2.2.2.1 hY hB.2.2.2.2 hB.2.2.2.1; have eL : B.length = T.length := (by rw [← hT3.out, eT, List.length_map]); rw [← eT, hT3.out] at r4; rw [eL]; clear hR h4 hB hY eT eL; have hAl := fun (wx : World) (k : Keep w4 wx) => Alike_eq a3 a4 c3 c4 T T.length rfl wx b3.out (RdL.keep (RdL.keep r3.out k4) k) (RdL.keep r4 k); clear r4; replace hAl : Hid _ := hAl)
      | (go_at_call 12; refine (hAl.out w4 (Keep.refl w4)).mono ?_; rintro e w5 ⟨rfl, k5⟩; clear hAl)
      | (go_at_call 13; refine (hK.out a2 c2 w5 (RdT.keep hR2.out ((k3.trans k4).trans k5)) (RdT.keep HT.out (((k2.trans k3).trans k4).trans k5))).mono ?_; rintro e w6 ⟨rfl, k6⟩))
    go_ret
    exact ⟨rfl, (((k2.trans k3).trans k4).trans k5).trans k6⟩
  · have HQ : Hid (E ≠ 0) := q
    clear q
    go_enter Try.func3, Try.ntmps3
    go_wp2_with (first
      | (go_at_call 9; refine hC.mono ?_; rintro e w2 ⟨a2, c2, rfl, hR2, k2⟩; clear hC; replace hR2 : Hid _ := hR2)
      | (go_at_call 10; refine (hO.out a2 c2 w2 hR2.out).mono ?_; rintro e w3 ⟨v3, rfl, k3, h3, -⟩; obtain rfl := h3 HQ.out; clear hO h3)
      | (go_at_call 11; refine (hR.out w3 (RdT.keep HT.out (k2.trans k3))).mono ?_; rintro e w4 ⟨v4, rfl, k4, h4, -⟩; obtain rfl := h4 HQ.out; clear hR h4)
      | (go_at_call 12; refine (Alike_eq none none 0 0 [] 0 rfl w4 (by omega) (fun j hj => by simp at hj) (fun j hj => by simp at hj)).mono ?_; rintro e w5 ⟨rfl, k5⟩)
      | (go_at_call 13; refine (hK.out a2 c2 w5 (RdT.keep hR2.out ((k3.trans k4).trans k5)) (RdT.keep HT.out (((k2.trans k3).trans k4).trans k5))).mono ?_; rintro e w6 ⟨rfl, k6⟩))
    go_ret
    exact ⟨rfl, (((k2.trans k3).trans k4).trans k5).trans k6⟩
end Go.Proofs.Ytaogjiffnebnkaa
