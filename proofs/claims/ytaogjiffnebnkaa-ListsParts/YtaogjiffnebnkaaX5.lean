import Derived.Test.YtaogjiffnebnkaaX3
set_option linter.unusedVariables false
set_option linter.unusedSimpArgs false
namespace Go.Proofs.Ytaogjiffnebnkaa
open Go.RowKit Go.Shelf Go.Maps
attribute [local go_sem] run_store_float
/-- A cut with its tree's number so much greater. -/
def shf (z : Int) (c : Ct) : Ct := ⟨c.th, c.cs, c.tr + z, c.fr, c.to⟩
def sTr (x : CI) (z : Int) : CI := (⟨x.1.th, x.1.cs, z, x.1.fr, x.1.to⟩, x.2)
theorem UC_tr : ∀ (l : List CI) (j : Nat) (z : Int), j < l.length → UC (l.set j (sTr (l.getD j ct0) z)) = (UC l).set (j * 5 + 2) (.int .i64 z)
  | [], j, z, h => by simp at h
  | r :: l, 0, z, _ => by simp [UC, sTr]
  | r :: l, j + 1, z, h => by
    have := UC_tr l j z (by simpa using h)
    rw [show (j + 1) * 5 + 2 = (j * 5 + 2) + 1 + 1 + 1 + 1 + 1 by omega]
    simp only [List.set_cons_succ, UC, List.getD_cons_succ]
    rw [this]
theorem OwnC.tr {B : Nat} {w : World} {g n cap : Nat} {K : List CI} (h : OwnC B w (.slice (some ⟨g, 0, none⟩) n cap) K) (j : Nat) (z : Int) (hj : j < K.length) : OwnC B (w.setCell ⟨g, j * 5 + 2, none⟩ (.int .i64 z)) (.slice (some ⟨g, 0, none⟩) n cap) (K.set j (sTr (K.getD j ct0) z)) := by
  rcases h.2 with ⟨h1, _⟩ | ⟨g', cap', cur, hv, hg, hh, h1, h2, h3, h4⟩
  · cases h1
  · simp only [Value.slice.injEq, Option.some.injEq, Addr.mk.injEq, and_true] at hv
    obtain ⟨rfl, rfl, rfl⟩ := hv
    refine ⟨by rw [UC_length], .inr ⟨g, cap, _, by rw [List.length_set], hg, heap_setCell_same _ g (j * 5 + 2) _ 57 _ hh, by rw [List.length_set]; exact h1, h2, ?_, ?_⟩⟩
    · simp; exact h3
    · rw [List.length_set, UC_tr K j z hj, ← h4]
      simp only [Array.toList_setIfInBounds, List.take_set]
theorem OC.tr {L : List Ct} {w : World} {g n cap : Nat} {wr : World} {K : List CI} (h : OC L w (.slice (some ⟨g, 0, none⟩) n cap) wr K) (j : Nat) (z : Int) (hj : j < L.length) : OC (L.set j ⟨(L.getD j cd0).th, (L.getD j cd0).cs, z, (L.getD j cd0).fr, (L.getD j cd0).to⟩) w (.slice (some ⟨g, 0, none⟩) n cap) (wr.setCell ⟨g, j * 5 + 2, none⟩ (.int .i64 z)) (K.set j (sTr (K.getD j ct0) z)) := by
  have hjK : j < K.length := by rw [h.len]; exact hj
  obtain ⟨hgB, c9, hg9⟩ := h.own.block (b := g) rfl
  have hcat : ∀ {u : Value} {l : List Int}, OwnZ 3 w.heap.size wr u l → OwnZ 3 w.heap.size (wr.setCell ⟨g, j * 5 + 2, none⟩ (.int .i64 z)) u l := by
    intro u l hu
    refine hu.same fun b hb => neq_set _ _ _ _ b fun e => ?_
    obtain ⟨-, c2, hc⟩ := hu.block hb
    rw [e, hg9] at hc
    simp at hc
  have ej : L.getD j cd0 = (K.getD j ct0).1 := by rw [← h.eq]; simp [List.getD, hjK]
  refine ⟨?_, h.own.tr j z hjK, ?_, h.kp.setCell (p := ⟨g, j * 5 + 2, none⟩) hgB _⟩
  · rw [List.map_set, h.eq, ej]; rfl
  · intro r hr
    rcases List.mem_or_eq_of_mem_set hr with hr | rfl
    · exact ⟨hcat (h.cats r hr).1, (h.cats r hr).2⟩
    · have hm : K.getD j ct0 ∈ K := by
        have : K.getD j ct0 = K[j] := by simp [List.getD, hjK]
        rw [this]; exact List.getElem_mem _
      exact ⟨hcat (h.cats _ hm).1, (h.cats _ hm).2⟩
theorem onL_at (L : List Ct) (z : Int) {i : Nat} (hi : i < L.length) : ((L.take i).map (shf z) ++ L.drop i).getD i cd0 = L.getD i cd0 := by
  have h1 : ((L.take i).map (shf z)).length = i := by rw [List.length_map, List.length_take]; omega
  rw [getD_right cd0 _ _ (by omega), h1, Nat.sub_self]
  simp [List.getD, hi]
theorem onL_next (L : List Ct) (z : Int) {i : Nat} (hi : i < L.length) : ((L.take i).map (shf z) ++ L.drop i).set i (shf z (L.getD i cd0)) = (L.take (i + 1)).map (shf z) ++ L.drop (i + 1) := by
  have h1 : ((L.take i).map (shf z)).length = i := by rw [List.length_map, List.length_take]; omega
  rw [List.set_append_right _ _ (by omega), h1, Nat.sub_self, List.drop_eq_getElem_cons hi, List.set_cons_zero, List.take_succ_eq_append_getElem hi, List.map_append, List.append_assoc]
  simp [List.getD, hi]
set_option maxRecDepth 100000 in
set_option maxHeartbeats 2000000 in
theorem on_any (a : Option Addr) (c : Nat) (L : List Ct) (n : Nat) (hn : L.length = n) (z : Int) (w : World) (hLn : n ≤ 1099511627775) (ha : RdC w a L) (hz : 0 ≤ z ∧ z ≤ 65536) (ht : ∀ x ∈ L, 0 ≤ x.tr ∧ x.tr ≤ 65536) :
    Calls Try.prog 30 #[.slice a n c, .int .i64 z] w fun e w' => ∃ v, e = .returned v ∧ ∃ K, OC (L.map (shf z)) w v w' K := by
  have hC := CopiedB_any a c L w (by omega) ha
  rw [hn] at hC
  have HN : Hid (L.length = n ∧ n ≤ 1099511627775) := ⟨hn, hLn⟩
  have HT : Hid (∀ x ∈ L, 0 ≤ x.tr ∧ x.tr ≤ 65536) := ht
  have HZ : Hid (0 ≤ z ∧ z ≤ 65536) := hz
  clear hn hLn ht hz ha
  go_enter Try.func30, Try.ntmps30
  go_wp2_with (go_at_call 14; refine hC.mono ?_; rintro e w2 ⟨v2, rfl, K0, hO0⟩; obtain ⟨a2, c2, e2, -, -⟩ := hO0.rd; rw [HN.out.1] at e2; subst e2; replace hO0 : Hid (OC L w (.slice a2 n c2) w2 K0) := hO0)
  clear hC
  go_loopw [6] (fun iv wr => ∃ (i : Nat) (K : List CI), iv = .int .i64 (i : Int) ∧ i ≤ n ∧ OC ((L.take i).map (shf z) ++ L.drop i) w (.slice a2 n c2) wr K) (fun iv _ => n - (intOf iv).toNat)
  case atStart => exact ⟨0, K0, rfl, Nat.zero_le _, by simpa using hO0.out⟩
  case round =>
    obtain ⟨i, K, rfl, hi, hI⟩ := hrel
    by_cases hil : i < n
    · have hic : (i : Int) < (n : Int) := by omega
      have hiL : i < L.length := by rw [HN.out.1]; exact hil
      have hl1 : ((L.take i).map (shf z) ++ L.drop i).length = L.length := by simp; omega
      have hKl : K.length = n := by rw [hI.len, hl1, HN.out.1]
      obtain ⟨g, cap, hv⟩ : ∃ g cap, a2 = some ⟨g, 0, none⟩ ∧ c2 = cap := by
        rcases hI.own.2 with ⟨h1, h2⟩ | ⟨g, cap, cur, hv, -⟩
        · omega
        · simp only [Value.slice.injEq] at hv
          exact ⟨g, cap, hv.1, hv.2.2⟩
      obtain ⟨rfl, rfl⟩ := hv
      have hat := hI.own.at (j := i) (by omega)
      have hN : (K.getD i ct0).1 = L.getD i cd0 := by
        have h1 : ((L.take i).map (shf z) ++ L.drop i).getD i cd0 = (K.getD i ct0).1 := by rw [← hI.eq]; simp [List.getD, show i < K.length by omega]
        rw [← h1, onL_at L z hiL]
      have hnx := hI.tr i ((L.getD i cd0).tr + z) (by omega)
      rw [onL_at L z hiL] at hnx
      have hst := onL_next L z hiL
      unfold shf at hst
      have hmem : L.getD i cd0 ∈ L := by
        have : L.getD i cd0 = L[i] := by simp [List.getD, hiL]
        rw [this]; exact List.getElem_mem _
      have htr := HT.out _ hmem
      rw [show Cu.d0 = ct0 from rfl] at hat
      have d2 := hat.c2
      have f2 := hat.f2
      rw [hN] at d2
      generalize L.getD i cd0 = N at *
      have wp : wrap64 (N.tr + z) = N.tr + z := by have := HZ.out; unfold wrap64; omega
      have wp1 : IntKind.i64.wrap (N.tr + z) = N.tr + z := by rw [IntWalk.i64_left]; exact wp
      replace htr : Hid _ := htr
      replace hnx : Hid _ := hnx
      replace hst : Hid _ := hst
      replace hI : Hid _ := hI
      replace hKl : Hid _ := hKl
      replace hN : Hid _ := hN
      clear hat hl1
      go_wp2_with fail
      have hb := HN.out.2
      rw [wrap_up4 (Nat.le_succ_of_le hb) hil]
      have this := hnx.out
      unfold shf at this ⊢
      rw [hst.out] at this
      exact ⟨⟨i + 1, _, rfl, hil, this⟩, by show n - (((i + 1 : Nat) : Int)).toNat < n - ((i : Int)).toNat; omega⟩
    · have hic : ¬ (i : Int) < (n : Int) := by omega
      obtain rfl : i = n := by omega
      have e1 : (L.take i).map (shf z) ++ L.drop i = L.map (shf z) := by rw [← HN.out.1, List.take_length, List.drop_length, List.append_nil]
      rw [e1] at hI
      go_wp2_with fail
      go_ret
      exact ⟨_, rfl, K, hI⟩
end Go.Proofs.Ytaogjiffnebnkaa
set_option linter.unusedVariables false
set_option linter.unusedSimpArgs false
namespace Go.Proofs.Ytaogjiffnebnkaa
open Go.RowKit Go.Shelf Go.Maps
attribute [local go_sem] run_store_float
/-- The list of a feature; none, if there is none. -/
def lkp (T : List Lst) (f : Int) : Lst := (T.find? fun t => t.ft == f).getD ⟨f, [], [], []⟩
theorem lkp_at : ∀ (T : List Lst) (f : Int) (i : Nat), i < T.length → (∀ j, j < i → (T.getD j lst0).ft ≠ f) → (T.getD i lst0).ft = f → lkp T f = T.getD i lst0
  | [], f, i, h, _, _ => by simp at h
  | t :: T, f, 0, _, _, h => by simp at h; simp [lkp, List.find?_cons, h]
  | t :: T, f, i + 1, hi, hj, h => by
    have h0 := hj 0 (by omega)
    simp at h0
    have := lkp_at T f i (by simpa using hi) (fun j q => by have := hj (j + 1) (by omega); simpa using this) (by simpa using h)
    simp only [lkp, List.find?_cons, show (t.ft == f) = false from by simpa using h0, List.getD_cons_succ] at this ⊢
    exact this
theorem lkp_no (T : List Lst) (f : Int) (h : ∀ j, j < T.length → (T.getD j lst0).ft ≠ f) : lkp T f = ⟨f, [], [], []⟩ := by
  unfold lkp
  rw [List.find?_eq_none.2 (fun t ht => ?_)]
  · rfl
  · obtain ⟨j, hj, rfl⟩ := List.getElem_of_mem ht
    have := h j hj
    simpa [List.getD, hj] using this
/-- Four stores into a row of four. -/
theorem store4 (w : World) (g ty : Nat) (x0 x1 x2 x3 v0 v1 v2 v3 : Value) (h : w.heap[g]? = some (.cells #[x0, x1, x2, x3] ty (0, 0))) :
    ((((w.setCell ⟨g, 0, none⟩ v0).setCell ⟨g, 1, none⟩ v1).setCell ⟨g, 2, none⟩ v2).setCell ⟨g, 3, none⟩ v3).heap[g]? = some (.cells #[v0, v1, v2, v3] ty (0, 0)) ∧
    ∀ b, b ≠ g → ((((w.setCell ⟨g, 0, none⟩ v0).setCell ⟨g, 1, none⟩ v1).setCell ⟨g, 2, none⟩ v2).setCell ⟨g, 3, none⟩ v3).heap[b]? = w.heap[b]? := by
  have a0 := heap_setCell_same w g 0 _ ty v0 h
  have a1 := heap_setCell_same _ g 1 _ ty v1 a0
  have a2 := heap_setCell_same _ g 2 _ ty v2 a1
  have a3 := heap_setCell_same _ g 3 _ ty v3 a2
  refine ⟨by simpa using a3, fun b hb => ?_⟩
  rw [neq_set _ _ _ _ b hb, neq_set _ _ _ _ b hb, neq_set _ _ _ _ b hb, neq_set _ _ _ _ b hb]
/-- What 'of' answers. -/
def OfP (w : World) (L : Lst) (f : Int) (e : Ending) (w' : World) : Prop := ∃ na nc ca cc la lc, e = .returned (.agg #[.int .i64 f, .slice na L.ns.length nc, .slice ca L.cs.length cc, .slice la L.ls.length lc]) ∧ Keep w w' ∧ RdC w' na L.ns ∧ RdC w' ca L.cs ∧ RdC w' la L.ls ∧ L.ns.length ≤ nc ∧ L.cs.length ≤ cc ∧ L.ls.length ≤ lc
set_option maxRecDepth 100000 in
set_option maxHeartbeats 2000000 in
theorem of_any (a : Option Addr) (c : Nat) (T : List Lst) (n : Nat) (hn : T.length = n) (f : Int) (w : World) (hLn : n ≤ 1099511627776) (ha : RdL w a T) :
    Calls Try.prog 28 #[.slice a n c, .int .i64 f] w fun e w' => OfP w (lkp T f) f e w' := by
  obtain ⟨w1, hw1⟩ : ∃ w1, w.alloc (Obj.cells #[Value.int .i64 0, .slice none 0 0, .slice none 0 0, .slice none 0 0] 33) = w1 := ⟨_, rfl⟩
  have k1 : Keep w w1 := by rw [← hw1]; exact (Keep.refl w).alloc _
  have r1 : w1.heap[w.heap.size]? = some (Obj.cells #[Value.int .i64 0, .slice none 0 0, .slice none 0 0, .slice none 0 0] 33 (0, 0)) := by rw [← hw1]; exact heap_alloc_new w _
  have z0 := cell_of_row w1 _ 0 _ 33 (0, 0) r1
  have z1 := cell_of_row w1 _ 1 _ 33 (0, 0) r1
  have z2 := cell_of_row w1 _ 2 _ 33 (0, 0) r1
  have z3 := cell_of_row w1 _ 3 _ 33 (0, 0) r1
  have f0 := frozen_of_row w1 _ 0 _ 33 r1
  have f1 := frozen_of_row w1 _ 1 _ 33 r1
  have f2 := frozen_of_row w1 _ 2 _ 33 r1
  have f3 := frozen_of_row w1 _ 3 _ 33 r1
  simp at z0 z1 z2 z3
  have hb : w.heap.size ≤ w.heap.size := Nat.le_refl _
  have HL : Hid (n ≤ 1099511627776) := hLn
  have HN : Hid (T.length = n) := hn
  obtain ⟨h, hh⟩ : ∃ h, w.heap.size = h := ⟨_, rfl⟩
  have hle : Hid (w.heap.size ≤ h) := by show _ ≤ _; omega
  rw [hh] at r1 z0 z1 z2 z3 f0 f1 f2 f3
  replace r1 : Hid _ := r1
  clear hLn hn hb
  go_enter Try.func28, Try.ntmps28
  go_wp2_with fail
  try rw [hw1]
  try rw [hh]
  clear hw1 hh
  go_loopw [5] (fun iv wr => ∃ (i : Nat), iv = .int .i64 (i : Int) ∧ i ≤ n ∧ w1 = wr ∧ Hid (∀ j, j < i → (T.getD j lst0).ft ≠ f)) (fun iv _ => n - (intOf iv).toNat)
  case atStart => exact ⟨0, rfl, Nat.zero_le _, rfl, fun j hj => by omega⟩
  case round =>
    obtain ⟨i, rfl, hi, rfl, hj⟩ := hrel
    by_cases hil : i < n
    · have hic : (i : Int) < (n : Int) := by omega
      have hiT : i < T.length := by rw [HN.out]; exact hil
      obtain ⟨b1, o1, na1, nc1, ca1, cc1, la1, lc1, rfl, c0, c1, c2, c3, q1, q2, q3, -, -, -, p1, p2, p3⟩ := ha i hiT
      replace c0 := k1.cell c0
      replace c1 := k1.cell c1
      replace c2 := k1.cell c2
      replace c3 := k1.cell c3
      have hAt := fun e => lkp_at T f i hiT hj.out e
      have hNx : (T.getD i lst0).ft ≠ f → ∀ j, j < i + 1 → (T.getD j lst0).ft ≠ f := by
        intro e j q
        by_cases r : j = i
        · rw [r]; exact e
        · exact hj.out j (by omega)
      replace hAt : Hid _ := hAt
      replace hNx : Hid _ := hNx
      generalize T.getD i lst0 = N at *
      by_cases hf : N.ft = f
      · have hc : (N.ft == f) = true := by simp [hf]
        have hA := hAt.out hf
        obtain ⟨F2, F1⟩ := store4 w1 h 33 _ _ _ _ (Value.int .i64 N.ft) (.slice na1 N.ns.length nc1) (.slice ca1 N.cs.length cc1) (.slice la1 N.ls.length lc1) r1.out
        have kF : Keep w ((((w1.setCell ⟨h, 0, none⟩ (Value.int .i64 N.ft)).setCell ⟨h, 1, none⟩ (.slice na1 N.ns.length nc1)).setCell ⟨h, 2, none⟩ (.slice ca1 N.cs.length cc1)).setCell ⟨h, 3, none⟩ (.slice la1 N.ls.length lc1)) := (((k1.setCell (p := ⟨h, 0, none⟩) hle.out _).setCell (p := ⟨h, 1, none⟩) hle.out _).setCell (p := ⟨h, 2, none⟩) hle.out _).setCell (p := ⟨h, 3, none⟩) hle.out _
        replace hA : Hid _ := hA
        replace p1 : Hid _ := p1
        replace p2 : Hid _ := p2
        replace p3 : Hid _ := p3
        replace q1 : Hid (RdC w na1 N.ns) := q1
        replace q2 : Hid (RdC w ca1 N.cs) := q2
        replace q3 : Hid (RdC w la1 N.ls) := q3
        replace F2 : Hid _ := F2
        replace F1 : Hid _ := F1
        replace kF : Hid _ := kF
        replace hf : Hid _ := hf
        go_wp2_with fail
        try simp only [Exit.inBlock, Exit.then]
        refine bodyPost_ret (results_cell_row rfl _ _ h 33 _ (0, 0) _ rfl F2.out Try.underlying33 rfl (by kernel_rfl)) rfl ?_
        rw [hA.out]
        exact ⟨na1, nc1, ca1, cc1, la1, lc1, by rw [hf.out], kF.out, RdC.keep q1.out kF.out, RdC.keep q2.out kF.out, RdC.keep q3.out kF.out, p1.out, p2.out, p3.out⟩
      · have hc : (N.ft == f) = false := by simpa using hf
        have hN := hNx.out hf
        replace hN : Hid _ := hN
        replace hf : Hid _ := hf
        go_wp2_with fail
        have hL := HL.out
        rw [wrap_up4 hL hil]
        exact ⟨⟨i + 1, rfl, hil, (by first | trivial | rfl), hN.out⟩, by show n - (((i + 1 : Nat) : Int)).toNat < n - ((i : Int)).toNat; omega⟩
    · have hic : ¬ (i : Int) < (n : Int) := by omega
      obtain rfl : i = n := by omega
      have hA : Hid (lkp T f = ⟨f, [], [], []⟩) := lkp_no T f (fun j q => hj.out j (by rw [HN.out] at q; exact q))
      obtain ⟨F2, F1⟩ := store4 w1 h 33 _ _ _ _ (Value.int .i64 f) (.slice none 0 0) (.slice none 0 0) (.slice none 0 0) r1.out
      have kF : Keep w ((((w1.setCell ⟨h, 0, none⟩ (Value.int .i64 f)).setCell ⟨h, 1, none⟩ (.slice none 0 0)).setCell ⟨h, 2, none⟩ (.slice none 0 0)).setCell ⟨h, 3, none⟩ (.slice none 0 0)) := (((k1.setCell (p := ⟨h, 0, none⟩) hle.out _).setCell (p := ⟨h, 1, none⟩) hle.out _).setCell (p := ⟨h, 2, none⟩) hle.out _).setCell (p := ⟨h, 3, none⟩) hle.out _
      replace F2 : Hid _ := F2
      replace F1 : Hid _ := F1
      replace kF : Hid _ := kF
      go_wp2_with fail
      try simp only [Exit.inBlock, Exit.then]
      refine bodyPost_ret (results_cell_row rfl _ _ h 33 _ (0, 0) _ rfl F2.out Try.underlying33 rfl (by kernel_rfl)) rfl ?_
      rw [hA.out]
      exact ⟨none, 0, none, 0, none, 0, rfl, kF.out, fun j hj => by simp at hj, fun j hj => by simp at hj, fun j hj => by simp at hj, Nat.le_refl _, Nat.le_refl _, Nat.le_refl _⟩
end Go.Proofs.Ytaogjiffnebnkaa
