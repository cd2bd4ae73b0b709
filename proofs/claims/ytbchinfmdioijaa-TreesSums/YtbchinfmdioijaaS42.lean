import Derived.Test.YtbchinfmdioijaaS41
import Derived.BigQuiet
import Derived.BigRegion
set_option linter.unusedVariables false
set_option linter.unusedSimpArgs false
namespace Go.Proofs.Ytbchinfmdioijaa
open Go.RowKit Go.Shelf
theorem scS_bad {F : Nat} {N : Int} {base : List Int} {ts : List (Int × List Nd)} {xs : List Nat} (h : (scS F N base ts xs).2 ≠ 0) : (scS F N base ts xs).1 = [] := by
  have hF : ∀ (ts : List (Int × List Nd)) (s : List Int), (scF N xs ts s).2 ≠ 0 → (scF N xs ts s).1 = [] := by
    intro ts
    induction ts with
    | nil => intro s h; exact absurd rfl h
    | cons t ts ih =>
      intro s h
      rw [scF] at h ⊢
      split at h
      · rename_i h0; rw [if_pos h0]; exact ih _ h
      · rename_i h0; rw [if_neg h0]
  unfold scS at h ⊢
  split
  · rfl
  · rename_i h0
    rw [if_neg h0] at h
    split
    · rfl
    · rename_i h1
      rw [if_neg h1] at h
      exact hF _ _ h
theorem own_le {g n c k : Nat} (h : (Value.slice (some ⟨g, 0, none⟩) n c).ownBlock = some k) : g ≤ k := by
  have h : some g = some k := h
  simp only [Option.some.injEq] at h
  omega
/-- append(l, sums...), l of one's own and empty. -/
theorem wpList_copyO (B : Nat) {w : World} {ops : Array Oper} {rest : List Oper} {o : Oper} {a : Act} {Q : Exit → Act → World → Prop} (hgd : o.guard = none) (s x : Operand)
    (ho : o.op = .call { callee := .builtin .append, args := #[s, x], argTypes := #[49, 49] }) (v : Value) (hown : OwnZ 2 B w v []) (hB : B ≤ w.heap.size) (l : List Int) (ad : Addr) (c : Nat) (hs : a.eval s = v)
    (hx : a.eval x = .slice (some ad) l.length c) (hr : RdI w (some ad) l) (hlen : l.length ≤ 17592186044416)
    (hK : ∀ v' w1, OwnZ 2 B w1 v' l → w.grownBy w1 v.ownBlock → wpList Try.prog ops Q rest (a.put o.dst v') w1) :
    wpList Try.prog ops Q (o :: rest) a w := by
  obtain ⟨i0, hi, hz0, hz1, hz2⟩ := info_parts i2
  refine wpList_append_own _ hgd s x 49 ho B 2 i0 (.int .i64 0) 1 8 Try.underlying49 hi hz0 hz1 hz2 rfl (by decide) _ _ _ hs hown ad l.length c (UZ l) hx (by simp [UZ]) ?_ (UZ_one l) ?_ ?_ hB ?_
  · intro j u hj
    have hjl : j < l.length := by have := (List.getElem?_eq_some_iff.1 hj).1; simpa [UZ_length] using this
    rw [UZ_get l j hjl] at hj
    obtain ⟨b', o', e, hc⟩ := hr j hjl
    simp only [Option.some.injEq] at e
    subst e
    rw [Addr.add_lit, hc, hj]
  · simp only [maxLen, List.length_nil]; omega
  · simp only [List.length_nil]; omega
  · intro v' w1 h1 h2 _
    refine hK v' w1 ?_ h2
    unfold OwnZ; simpa [UZ] using h1
set_option maxRecDepth 100000 in
set_option maxHeartbeats 4000000 in
theorem law_sums (nm : ByteArray) (fa : Option Addr) (fs : List ByteArray) (cf : Nat) (N : Int) (ba : Option Addr) (bs : List Int) (cb : Nat) (ta : Option Addr) (ts : List (Int × List Nd)) (ct : Nat) (ax : Option Addr) (xs : List Nat) (cx : Nat) (ap : Option Addr) (ps : List Int) (cp : Nat) (w : World)
    (hnm : nm.size ≤ 281474976710656) (hf : RdS w fa fs) (hfz : ∀ j, j < fs.length → (fs.getD j ByteArray.empty).size ≤ 281474976710656) (hfl : fs.length ≤ 8796093022208) (hb : RdI w ba bs) (hbc : bs.length ≤ cb) (hbl : bs.length ≤ 17592186044416) (ht : RdT w ta ts) (htl : ts.length ≤ 4398046511104) (hts : ∀ j, j < ts.length → (ts.getD j (0, [])).2.length ≤ 1759218604441)
    (hxd : RdF w ax xs) (hxl : xs.length ≤ 17592186044416) (hpd : RdI w ap ps) (hpl : ps.length ≤ 17592186044416) (hpb : ∀ x ∈ ps, -9223372036854775808 ≤ x ∧ x ≤ 9223372036854775807) :
    Calls Try.prog 9 #[ens nm fa fs.length cf N ba bs.length cb ta ts.length ct, .slice ax xs.length cx, .slice ap ps.length cp] w fun e w' => e = .returned (.bool true) ∧ Keep w w' := by
  have hSc := fun (wx : World) (k : Keep w wx) => Score_any nm fa fs.length cf N ba bs cb ta ts ct ax xs cx wx (hb.keep k) hbc hbl (ht.keep k) (by omega) (hxd.keep k) hxl (by omega)
  have hCp := fun (wx : World) (k : Keep w wx) => rCopy_sep nm fa fs cf N ba bs cb ta ts ct wx (hf.keep k) hfl (hb.keep k) hbl (ht.keep k) htl hts
  have hMd := fun (wx : World) (k : Keep w wx) => (Model_any nm fa fs cf N ba bs cb ta ts ct wx hnm (hf.keep k) hfz hfl (hb.keep k) hbc hbl (ht.keep k) htl)
  have k0 : Keep w (w.alloc (Obj.cells #[Value.string nm, Value.slice fa fs.length cf, Value.int IntKind.i64 N, Value.slice ba bs.length cb, Value.slice ta ts.length ct] 52)) := (Keep.refl w).alloc _
  have tb : (w.alloc (Obj.cells #[Value.string nm, Value.slice fa fs.length cf, Value.int IntKind.i64 N, Value.slice ba bs.length cb, Value.slice ta ts.length ct] 52)).heap[w.heap.size]? = some (Obj.cells #[Value.string nm, Value.slice fa fs.length cf, Value.int IntKind.i64 N, Value.slice ba bs.length cb, Value.slice ta ts.length ct] 52 (0, 0)) := heap_alloc_new w _
  have LV := lives_any
  replace tb : Hid _ := tb
  unfold ens at *
  go_enter Try.func9, Try.ntmps9
  go_wp2_with fail
  generalize w.alloc _ = w1 at k0 tb ⊢
  refine (LV _).mono ?_
  rintro e w2 ⟨rfl, k2⟩
  have k02 := k0.trans k2
  have hz1 : w.heap.size < w1.heap.size := (Array.getElem?_eq_some_iff.1 tb.out).1
  have tb2 := (k2.block _ hz1).trans tb.out
  have b0 := cell_of_row _ _ 0 _ 52 (0, 0) tb2
  have b1 := cell_of_row _ _ 1 _ 52 (0, 0) tb2
  have b2 := cell_of_row _ _ 2 _ 52 (0, 0) tb2
  have b3 := cell_of_row _ _ 3 _ 52 (0, 0) tb2
  have b4 := cell_of_row _ _ 4 _ 52 (0, 0) tb2
  simp only [List.getElem?_toArray, List.getElem?_cons_zero, List.getElem?_cons_succ] at b0 b1 b2 b3 b4
  clear tb2 tb LV
  go_wp2_with fail
  refine (hSc _ k02).mono ?_
  rintro e w3 ⟨v, rfl, ow, k3⟩
  have k03 := k02.trans k3
  by_cases hE : (scS fs.length N bs ts xs).2 = 0
  · obtain ⟨hA, hmE, hmS⟩ := sums_all hE
    have hok := scS_ok hE
    rw [hE]
    obtain ⟨av, cv, rfl, hcv, hrv⟩ := ow.shape
    have b0 := k3.cell b0
    have b1 := k3.cell b1
    have b2 := k3.cell b2
    have b3 := k3.cell b3
    have b4 := k3.cell b4
    obtain ⟨bb, bo, ea, -⟩ := hb 0 (by omega)
    subst ea
    obtain ⟨wa, hwa⟩ : ∃ wa, w3.alloc (Obj.cells #[] 2) = wa := ⟨_, rfl⟩
    have ka : Keep w3 wa := by rw [← hwa]; exact (Keep.refl w3).alloc _
    have ha : wa.heap[w3.heap.size]? = some (Obj.cells #[] 2 (0, 0)) := by rw [← hwa]; exact heap_alloc_new w3 _
    have oe : OwnZ 2 w3.heap.size wa (.slice (some ⟨w3.heap.size, 0, none⟩) 0 0) [] := ⟨rfl, .inr ⟨w3.heap.size, 0, #[], rfl, Nat.le_refl _, ha, Nat.le_refl _, by simp [maxLen], rfl, rfl⟩⟩
    replace hwa : Hid _ := hwa
    replace hok : Hid _ := hok
    replace hA : Hid _ := hA
    replace hmE : Hid _ := hmE
    replace hmS : Hid _ := hmS
    replace hE : Hid _ := hE
    have b3a := ka.cell b3
    rw [← hwa.out] at b3a
    have hba := (hb.keep k03).keep ka
    have h0a : w.heap.size ≤ wa.heap.size := Nat.le_trans k03.le ka.le
    go_wp2_with (at_builtin; rw [hwa.out]; refine wpList_copyO w3.heap.size rfl _ _ rfl _ oe ka.le bs _ cb ?_ ?_ hba hbl ?_; rotate_left 2; intro vw w4 hO4 g4; have k34 : Keep w3 w4 := Below.grown ka g4 ka.le (fun k hk => own_le hk); have b0 := k34.cell b0; have b1 := k34.cell b1; have b2 := k34.cell b2; have b3 := k34.cell b3; have b4 := k34.cell b4)
    rotate_left 1
    · rfl
    · rfl
    have k04 := k03.trans k34
    have h1b := hok.out.1
    have h2b := hok.out.2.1
    obtain ⟨aw, cw, rfl, hcw, hrw⟩ := hO4.shape
    obtain ⟨gw, hgw⟩ : ∃ g, aw = some ⟨g, 0, none⟩ := by
      rcases hO4.2 with ⟨h, h0⟩ | ⟨g, cap, cur, hv, _⟩
      · omega
      · simp only [Value.slice.injEq] at hv
        exact ⟨g, hv.1⟩
    subst hgw
    have hg3 := (hO4.block (b := gw) rfl).1
    have hg4 : gw < w4.heap.size := by
      obtain ⟨_, cur, hh⟩ := hO4.block (b := gw) rfl
      exact (Array.getElem?_eq_some_iff.1 hh).1
    have hO4 := hO4.mono k03.le
    clear hwa ka ha oe hba h0a g4 hcw hrw hSc b3a
    refine (hCp _ k04).mono ?_
    rintro e w5 ⟨fa', cf', ba', cb', ta', ct', rfl, rS', -, rB', hcb', rT', hct', k5, -, oB', hsep, K, hKl, oT, hKe, hCT⟩
    have k05 := k04.trans k5
    obtain ⟨w6, hw6, k56, tf⟩ : ∃ w6, w5.alloc (Obj.cells #[Value.string nm, Value.slice fa' fs.length cf', Value.int IntKind.i64 N, Value.slice ba' bs.length cb', Value.slice ta' ts.length ct'] 52) = w6 ∧ Keep w5 w6 ∧ w6.heap[w5.heap.size]? = some (Obj.cells #[Value.string nm, Value.slice fa' fs.length cf', Value.int IntKind.i64 N, Value.slice ba' bs.length cb', Value.slice ta' ts.length ct'] 52 (0, 0)) := ⟨_, rfl, (Keep.refl w5).alloc _, heap_alloc_new w5 _⟩
    have k06 := k05.trans k56
    have k46 := k5.trans k56
    have b0 := k46.cell b0
    have b1 := k46.cell b1
    have b2 := k46.cell b2
    have b3 := k46.cell b3
    have b4 := k46.cell b4
    have oW := hO4.keep k46
    have oT6 := (oT.keep k56).mono k04.le
    have hzl : (K.zip ts).map Prod.fst = K := List.map_fst_zip (by omega)
    have hzr : (K.zip ts).map Prod.snd = ts := List.map_snd_zip (by omega)
    have hzn : (K.zip ts).length = ts.length := by rw [List.length_zip]; omega
    have hT4 : ∀ b, (Value.slice ta' ts.length ct').ownBlock = some b → w4.heap.size ≤ b := fun b hb => (oT.block hb).1
    have hB4 : ∀ b, (Value.slice ba' bs.length cb').ownBlock = some b → w4.heap.size ≤ b ∧ b < w5.heap.size := fun b hb => ⟨(oB'.block hb).1, by obtain ⟨_, cur, hh⟩ := oB'.block hb; exact (Array.getElem?_eq_some_iff.1 hh).1⟩
    have hGd : ∀ z ∈ K.zip ts, Gd w6 (fun b => w4.heap.size ≤ b ∧ b < w5.heap.size ∧ (Value.slice ta' ts.length ct').ownBlock ≠ some b) z := by
      intro z hz
      obtain ⟨j, hj, rfl⟩ := List.getElem_of_mem hz
      have hj' : j < ts.length := by omega
      have e1 : K.getD j tt0 = K[j] := by simp [List.getD, show j < K.length by omega]
      have e2 : ts.getD j (0, []) = ts[j] := by simp [List.getD, hj']
      obtain ⟨b, o, na, nc, -, -, -, rN, -, l2, l3⟩ := ht j hj'
      have h1 := hKe j hj'
      have h2 := hCT j hj'
      rw [e1, e2] at h1 h2
      rw [e2] at rN l2 l3
      rw [List.getElem_zip]
      have h3 := h2.same (w' := w6) (S' := fun b => w4.heap.size ≤ b ∧ b < w5.heap.size ∧ (Value.slice ta' ts.length ct').ownBlock ≠ some b) (fun b hb => k56.block b hb.2.1) (fun _ h => h)
      exact ⟨h1.1, h1.2.1, h1.2.2, h3, h3.rdN rN, l2, l3⟩
    have hI0 : SI w w6 (.slice (some ⟨gw, 0, none⟩) bs.length cw) (.slice ta' ts.length ct') (K.zip ts) bs (K.zip ts) w6 :=
      ⟨List.Perm.refl _, oW, by rw [hzl]; exact oT6, fun b hb _ _ => rfl, Nat.le_refl _, k06⟩
    generalize K.zip ts = Z0 at *
    have hsv : Hid ((Value.slice ta' ts.length ct').ownBlock ≠ some gw) := fun e => by have := hT4 _ e; omega
    have hs6 : w5.heap.size < w6.heap.size := (Array.getElem?_eq_some_iff.1 tf).1
    have htf : Hid (∀ wr Z l, SI w w6 (.slice (some ⟨gw, 0, none⟩) bs.length cw) (.slice ta' ts.length ct') Z0 l Z wr → wr.heap[w5.heap.size]? = some (Obj.cells #[Value.string nm, Value.slice fa' fs.length cf', Value.int IntKind.i64 N, Value.slice ba' bs.length cb', Value.slice ta' ts.length ct'] 52 (0, 0))) := by
      intro wr Z l hI
      refine (hI.ot _ hs6 (fun e => ?_) (fun e => ?_)).trans tf
      · simp only [Value.ownBlock, Option.some.injEq] at e
        have := k5.le
        omega
      · obtain ⟨_, cur, hh⟩ := oT.block e
        have := (Array.getElem?_eq_some_iff.1 hh).1
        omega
    have hT5 : Hid (∀ b, (Value.slice ta' ts.length ct').ownBlock = some b → b < w5.heap.size) := fun b hb => by
      obtain ⟨_, cur, hh⟩ := oT.block hb
      exact (Array.getElem?_eq_some_iff.1 hh).1
    have hw13 : w.heap.size < w3.heap.size := Nat.lt_of_lt_of_le hz1 (Nat.le_trans k2.le k3.le)
    have hbx : Hid (∀ wr Z l, SI w w6 (.slice (some ⟨gw, 0, none⟩) bs.length cw) (.slice ta' ts.length ct') Z0 l Z wr → ∀ j v, w6.cell? ⟨w.heap.size, j, none⟩ = some v → wr.cell? ⟨w.heap.size, j, none⟩ = some v) := by
      intro wr Z l hI j v hc
      have h5 := k5.le
      have h34 := k34.le
      refine hI.cell ?_ (fun e => ?_) (fun e => ?_) hc
      · show w.heap.size < w6.heap.size; omega
      · simp only [Value.ownBlock, Option.some.injEq] at e; omega
      · have := hT4 _ e; simp only at this; omega
    have hBf : Hid (∀ wr Z l, SI w w6 (.slice (some ⟨gw, 0, none⟩) bs.length cw) (.slice ta' ts.length ct') Z0 l Z wr → RdI wr ba' bs) := by
      intro wr Z l hI
      have h1 := oB'.same (w' := wr) (fun b hb => (hI.ot b (by have := hB4 b hb; omega) (fun e => by simp only [Value.ownBlock, Option.some.injEq] at e; have := hB4 b hb; omega) (hsep b hb)).trans (k56.block b (hB4 b hb).2))
      obtain ⟨a1, c1, e, -, hr⟩ := h1.shape
      simp only [Value.slice.injEq] at e
      obtain ⟨rfl, -, rfl⟩ := e
      exact hr
    have hSf : Hid (∀ wr Z l, SI w w6 (.slice (some ⟨gw, 0, none⟩) bs.length cw) (.slice ta' ts.length ct') Z0 l Z wr → RdI wr av (scS fs.length N bs ts xs).1) := by
      intro wr Z l hI
      have hlt : ∀ b, (Value.slice av (scS fs.length N bs ts xs).1.length cv).ownBlock = some b → b < w3.heap.size := fun b hb => by
        obtain ⟨_, cur, hh⟩ := ow.block hb
        exact (Array.getElem?_eq_some_iff.1 hh).1
      have h5 := k5.le
      have h34 := k34.le
      have h1 := ow.same (w' := wr) (fun b hb => (hI.ot b (by have := hlt b hb; omega) (fun e => by simp only [Value.ownBlock, Option.some.injEq] at e; have := hlt b hb; omega) (fun e => by have := hT4 _ e; have := hlt b hb; omega)).trans ((k34.trans k46).block b (hlt b hb)))
      obtain ⟨a1, c1, e, -, hr⟩ := h1.shape
      simp only [Value.slice.injEq] at e
      obtain ⟨rfl, -, rfl⟩ := e
      exact hr
    have hRt : Hid (∀ wr Z l, SI w w6 (.slice (some ⟨gw, 0, none⟩) bs.length cw) (.slice ta' ts.length ct') Z0 l Z wr → RdT wr ta' (Z.map Prod.snd)) := by
      intro wr Z l hI
      refine hI.rdT (S := fun b => w4.heap.size ≤ b ∧ b < w5.heap.size ∧ (Value.slice ta' ts.length ct').ownBlock ≠ some b) (fun b hb => ⟨by omega, fun e => ?_, hb.2.2⟩) hGd
      simp only [Value.ownBlock, Option.some.injEq] at e
      omega
    clear hCp hKe hCT oT oT6 oW hO4 rT' rS' hKl hGd hsep hB4 oB' rB'
    replace hw6 : Hid _ := hw6
    replace tf : Hid _ := tf
    rw [← hw6.out] at b4
    go_wp2_with fail
    rw [hw6.out] at b4 ⊢
    go_loopw [44] (fun iv wr => ∃ (k : Nat) (Z : List TZ), k ≤ ts.length ∧ iv = .int .i64 k ∧ SI w w6 (.slice (some ⟨gw, 0, none⟩) bs.length cw) (.slice ta' ts.length ct') Z0 ((ts.take k).foldl (addT N xs) bs) Z wr) (fun iv _ => ts.length - (intOf iv).toNat)
    case atStart => exact ⟨0, Z0, by omega, rfl, hI0⟩
    case round =>
      obtain ⟨k, Z, hk, rfl, hI⟩ := hrel
      by_cases hkl : k < ts.length
      · have hkc : (k : Int) < (ts.length : Int) := by omega
        obtain ⟨b, o, na, nc, ea, d0, d1, dn, dc, dl, df⟩ := (ht.keep hI.kp) k hkl
        have hwo := hok.out.2.2.2.1 (ts.getD k (0, [])) (by simp [List.getD, hkl])
        obtain ⟨out, L, hT⟩ : ∃ out L, ts.getD k (0, []) = (out, L) := ⟨_, _, rfl⟩
        rw [hT] at d0 d1 dn dc dl df hwo
        simp only at d0 d1 dn dc dl df hwo
        have hlf := wo_lf hwo
        have hwk := woE_ok hwo
        obtain ⟨u, hu⟩ := Int.eq_ofNat_of_zero_le hwk.2.1
        have hul : u < bs.length := by omega
        subst hu
        subst ea
        have hfl2 := fold_len N xs (ts.take k) bs
        have hft : (ts.take (k + 1)).foldl (addT N xs) bs = ((ts.take k).foldl (addT N xs) bs).set u (wrap64 (((ts.take k).foldl (addT N xs) bs).getD u 0 + woV L (u : Nat) N xs)) := by rw [fold_take hkl, hT]; rfl
        clear hT
        obtain ⟨X1, hX1, kX, tX⟩ : ∃ X1, wr.alloc (Obj.cells #[Value.int IntKind.i64 (u : Nat), Value.slice na L.length nc] 24) = X1 ∧ Keep wr X1 ∧ X1.heap[wr.heap.size]? = some (Obj.cells #[Value.int IntKind.i64 (u : Nat), Value.slice na L.length nc] 24 (0, 0)) := ⟨_, rfl, (Keep.refl wr).alloc _, heap_alloc_new wr _⟩
        have hLf := Leaf_any na ax nc cx (u : Nat) L xs dl hxl X1 (dn.keep kX) (hxd.keep (hI.kp.trans kX))
        rw [hlf.1, hlf.2] at hLf
        generalize woV L (u : Nat) N xs = V at *
        have y0 := cell_of_row _ _ 0 _ 24 (0, 0) tX
        simp only [List.getElem?_toArray, List.getElem?_cons_zero, List.getElem?_cons_succ] at y0
        replace hX1 : Hid _ := hX1
        replace hft : Hid _ := hft
        have hfr := htf.out
        clear hwo hwk hlf tX
        go_wp2_with fail
        rw [hX1.out]
        generalize wr.heap.size = sr at y0 ⊢
        refine hLf.mono ?_
        rintro e w7 ⟨rfl, k7⟩
        have y0 := k7.cell y0
        have hI7 := hI.keep (kX.trans k7)
        obtain ⟨hI8, fz8, c8⟩ := hI7.add hfl2 hsv.out hul (wrap64 (((ts.take k).foldl (addT N xs) bs).getD u 0 + V))
        rw [← hft.out] at hI8
        generalize ((ts.take k).foldl (addT N xs) bs).getD u 0 = su at *
        clear hLf hfl2 d0 d1 dn
        by_cases hkp : k < ps.length
        · have hkpc : (k : Int) < (ps.length : Int) := by omega
          have h0n : 0 < ts.length := by omega
          have b4r := hbx.out _ Z _ hI8 4 _ b4
          have tF := htf.out _ Z _ hI8
          have f4 := cell_of_row _ _ 4 _ 52 (0, 0) tF
          simp only [List.getElem?_toArray, List.getElem?_cons_zero, List.getElem?_cons_succ] at f4
          obtain ⟨pb, po, ep, pc⟩ := (hpd.keep hI8.kp) k hkp
          subst ep
          obtain ⟨P, hP⟩ : ∃ P : Nat, IntKind.u64.wrap (ps.getD k 0) = (P : Int) := ⟨(IntKind.u64.wrap (ps.getD k 0)).toNat, by rw [IntKind.wrap_u64]; omega⟩
          generalize ps.getD k 0 = p at *
          have hn2 : IntKind.u64.wrap (ts.length : Int) = (ts.length : Int) := by rw [IntKind.wrap_u64]; omega
          obtain ⟨q, hq, hql⟩ : ∃ q : Nat, ((P : Int).tmod (ts.length : Int)) = (q : Int) ∧ q < ts.length := ⟨P % ts.length, by rw [Int.ofNat_tmod], Nat.mod_lt _ h0n⟩
          have hZn : Z.length = ts.length := by rw [hI8.pm.length_eq]; exact hzn
          obtain ⟨g, hg⟩ : ∃ g, ta' = some ⟨g, 0, none⟩ := by
            rcases hI8.tz.2 with ⟨h, h0⟩ | ⟨g, cap, cur, hv, _⟩
            · simp only [List.length_map] at h0; omega
            · simp only [Value.slice.injEq] at hv
              exact ⟨g, hv.1⟩
          subst hg
          clear tF
          go_wp2_with fail
          generalize w7.setCell _ _ = w8 at *
          go_quiet (fail)
          go_simp
          have hI9 := hI8.keep ((Keep.refl w8).drewN nq)
          have f4 := ((Keep.refl w8).drewN nq).cell f4
          generalize w8.drewN nq = w9 at *
          obtain ⟨ck0, ck1, fk0, fk1⟩ := hI9.cells (j := k) (by omega)
          obtain ⟨cq0, cq1, fq0, fq1⟩ := hI9.cells (j := q) (by omega)
          have hsw := hI9.swap (i := k) (q := q) (fun e => hsv.out (Eq.symm (show some gw = some g from e))) (by omega) (by omega)
          unfold swW at hsw
          have hg5 : g < w5.heap.size := hT5.out g rfl
          have hgf1 : g ≠ w5.heap.size := by omega
          have hgf2 : w5.heap.size ≠ g := by omega
          clear hP hn2 hq pc b4r y0 c8 fz8 hT4 hT5
          by_cases hkq : k = q
          · subst hkq
            generalize Z.getD k tz0 = zk at *
            replace hsw : Hid _ := hsw
            replace hI9 : Hid _ := hI9
            replace hI8 : Hid _ := hI8
            go_wp2_with fail
            go_big_region
            all_goals
              go_simp
              go_wp2_with fail
              go_roundw
              case rel => exact ⟨k + 1, _, by omega, by go_num, hsw.out.keep ((Keep.refl _).drew)⟩
              case measure => simp [intOf]; omega
          · have hn1 : k * 2 ≠ q * 2 := by omega
            generalize Z.getD k tz0 = zk at *
            generalize Z.getD q tz0 = zq at *
            replace hsw : Hid _ := hsw
            replace hI9 : Hid _ := hI9
            replace hI8 : Hid _ := hI8
            go_wp2_with fail
            go_big_region
            all_goals
              go_simp
              go_wp2_with fail
              go_roundw
              case rel => exact ⟨k + 1, _, by omega, by go_num, hsw.out.keep ((Keep.refl _).drew)⟩
              case measure => simp [intOf]; omega
        · have hkpc : ¬ (k : Int) < (ps.length : Int) := by omega
          go_wp2_with fail
          exact ⟨⟨k + 1, Z, by omega, by go_num, hI8⟩, by simp [intOf]; omega⟩
      · have hkc : ¬ (k : Int) < (ts.length : Int) := by omega
        obtain rfl : k = ts.length := by omega
        rw [List.take_length, ← hok.out.2.2.2.2] at hI
        have tF := htf.out wr Z _ hI
        have f0 := cell_of_row _ _ 0 _ 52 (0, 0) tF
        have f1 := cell_of_row _ _ 1 _ 52 (0, 0) tF
        have f2 := cell_of_row _ _ 2 _ 52 (0, 0) tF
        have f3 := cell_of_row _ _ 3 _ 52 (0, 0) tF
        have f4 := cell_of_row _ _ 4 _ 52 (0, 0) tF
        simp only [List.getElem?_toArray, List.getElem?_cons_zero, List.getElem?_cons_succ] at f0 f1 f2 f3 f4
        have e0 := hbx.out wr Z _ hI 0 _ b0
        have e1 := hbx.out wr Z _ hI 1 _ b1
        have e2 := hbx.out wr Z _ hI 2 _ b2
        have e3 := hbx.out wr Z _ hI 3 _ b3
        have e4 := hbx.out wr Z _ hI 4 _ b4
        have hpm : (Z.map Prod.snd).Perm ts := by have h := hI.pm.map Prod.snd; rw [hzr] at h; exact h
        have hZl : (Z.map Prod.snd).length = ts.length := hpm.length_eq
        have hS1 := Score_any nm fa' fs.length cf' N ba' bs cb' ta' (Z.map Prod.snd) ct' ax xs cx wr (hBf.out wr Z _ hI) hcb' hbl (hRt.out wr Z _ hI) (by omega) (hxd.keep hI.kp) hxl (by omega)
        rw [hA.out _ hpm, hZl] at hS1
        unfold ens at hS1
        have rs := hSf.out wr Z _ hI
        obtain ⟨aw, cw', e, -, rw'⟩ := hI.wz.shape
        have hsl : (scS fs.length N bs ts xs).1.length = bs.length := by rw [hok.out.2.2.2.2, fold_len]
        simp only [Value.slice.injEq] at e
        obtain ⟨rfl, -, rfl⟩ := e
        have kwr := hI.kp
        have hmS := hmS.out
        have hmE := hmE.out
        clear hI hI0 tF b0 b1 b2 b3 b4 hA hok htf hbx hSf hBf hRt hE hpm hZl hsv tf hzl hzr hzn hrv ow
        generalize (scS fs.length N bs ts xs).1 = s at *
        rw [← hsl]
        replace hsl : Hid _ := hsl
        go_wp2_with fail
        refine hS1.mono ?_
        rintro e w8 ⟨vu, rfl, ou, k8⟩
        obtain ⟨au, cu, rfl, -, ru⟩ := ou.shape
        have e0 := k8.cell e0
        have e1 := k8.cell e1
        have e2 := k8.cell e2
        have e3 := k8.cell e3
        have e4 := k8.cell e4
        have rs := rs.keep k8
        have rw' := rw'.keep k8
        have k08 := kwr.trans k8
        clear f0 f1 f2 f3 f4 hS1 ou
        go_wp2_with fail
        refine (hMd _ k08).mono ?_
        rintro e w9 ⟨hm, k9⟩
        rcases hm with ⟨-, fa2, cf2, ba2, cb2, ta2, ct2, rfl, -, -, rB2, hcb2, rT2, hct2⟩ | ⟨hbad, -⟩
        rotate_left
        · exact absurd hmE hbad
        have hml : (mdT ts).length = ts.length := by simp [mdT]
        obtain ⟨wA, hwA, kA⟩ : ∃ wA, w9.alloc (Obj.cells #[Value.string nm, Value.slice fa2 fs.length cf2, Value.int IntKind.i64 N, Value.slice ba2 bs.length cb2, Value.slice ta2 ts.length ct2] 52) = wA ∧ Keep w9 wA := ⟨_, rfl, (Keep.refl w9).alloc _⟩
        have hS2 := Score_any nm fa2 fs.length cf2 N ba2 bs cb2 ta2 (mdT ts) ct2 ax xs cx wA (rB2.keep kA) hcb2 hbl (rT2.keep kA) (by omega) (hxd.keep (k08.trans (k9.trans kA))) hxl (by omega)
        rw [hmS, hml] at hS2
        unfold ens at hS2
        replace hwA : Hid _ := hwA
        have k9A := k9.trans kA
        have rs := rs.keep k9A
        have rw' := rw'.keep k9A
        have ru := ru.keep k9A
        have k0A := k08.trans k9A
        clear hMd e0 e1 e2 e3 e4 rB2 rT2 hml
        rw [hsl.out]
        go_wp2_with fail
        rw [hwA.out]
        refine hS2.mono ?_
        rintro e wB ⟨vz, rfl, oz, kB⟩
        obtain ⟨az, cz, rfl, -, rz⟩ := oz.shape
        have rs := rs.keep kB
        have rw' := rw'.keep kB
        have ru := ru.keep kB
        have hsL : s.length ≤ 17592186044416 := by rw [hsl.out]; exact hbl
        have hU1 := fun (wx : World) (k : Keep wB wx) => sums_any av (some ⟨gw, 0, none⟩) cv cw s s wx hsL (rs.keep k) (rw'.keep k)
        have hU2 := fun (wx : World) (k : Keep wB wx) => sums_any au (some ⟨gw, 0, none⟩) cu cw s s wx hsL (ru.keep k) (rw'.keep k)
        have hU3 := fun (wx : World) (k : Keep wB wx) => sums_any az (some ⟨gw, 0, none⟩) cz cw s s wx hsL (rz.keep k) (rw'.keep k)
        rw [decide_eq_true rfl] at hU1 hU2 hU3
        rw [hsl.out] at hU1 hU2 hU3 ⊢
        clear oz hS2
        go_wp2_with fail
        refine (hU1 _ (Keep.refl wB)).mono ?_
        rintro e wC ⟨rfl, kC⟩
        go_wp2_with fail
        refine (hU2 _ kC).mono ?_
        rintro e wD ⟨rfl, kD⟩
        go_wp2_with fail
        refine (hU3 _ (kC.trans kD)).mono ?_
        rintro e wE ⟨rfl, kE⟩
        go_wp2_with fail
        go_ret
        exact ⟨ret_bool (by simp), k0A.trans (kB.trans (kC.trans (kD.trans kE)))⟩
  · have hnil := scS_bad hE
    rw [hnil] at ow
    obtain ⟨av, cv, rfl, -⟩ := ow.shape
    have hne : ((scS fs.length N bs ts xs).2 == 0) = false := by rw [beq_eq_false_iff_ne]; exact hE
    generalize (scS fs.length N bs ts xs).2 = E at *
    go_wp2_with fail
    go_ret
    exact ⟨ret_bool (by simp), k03⟩
end Go.Proofs.Ytbchinfmdioijaa
