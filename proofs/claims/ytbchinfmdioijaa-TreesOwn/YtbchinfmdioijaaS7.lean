import Derived.Test.YtbchinfmdioijaaS6
import Derived.Test.YtbchinfmdioijaaR6
set_option linter.unusedVariables false
set_option linter.unusedSimpArgs false
namespace Go.Proofs.Ytbchinfmdioijaa
open Go.RowKit Go.Shelf
theorem woE_shape {L : List Nd} {out N : Int} {m : Nat} (h : shE L ≠ 0) : woE L out N m = shE L := by unfold woE; rw [if_neg h]
theorem woE_out {L : List Nd} {out N : Int} {m : Nat} (h : shE L = 0) (ho : out < 0 ∨ N ≤ out) : woE L out N m = 6 := by unfold woE; rw [if_pos h, if_pos ho]
theorem woE_way {L : List Nd} {out N : Int} {m : Nat} (h : shE L = 0) (ho : ¬ (out < 0 ∨ N ≤ out)) : woE L out N m = wyE L m := by unfold woE wyE; rw [if_pos h, if_neg ho, if_pos h]
theorem scF_bad {N : Int} {xs : List Nat} {ts : List (Int × List Nd)} {s : List Int} {k : Nat} (hk : k < ts.length) {out : Int} {L : List Nd} (hT : ts.getD k (0, []) = (out, L)) {E : Int} (hE : woE L out N xs.length = E) (h0 : E ≠ 0) : scF N xs (ts.drop k) s = ([], E) := by
  rw [drop_one ts k (0, []) hk, hT, scF]; simp only; rw [hE, if_neg h0]
theorem scF_good {N : Int} {xs : List Nat} {ts : List (Int × List Nd)} {s : List Int} {k : Nat} (hk : k < ts.length) {out : Int} {L : List Nd} (hT : ts.getD k (0, []) = (out, L)) (hE : woE L out N xs.length = 0) : scF N xs (ts.drop k) s = scF N xs (ts.drop (k + 1)) (s.set out.toNat (wrap64 (s.getD out.toNat 0 + (L.getD (endN L xs) nd0).vl))) := by
  rw [drop_one ts k (0, []) hk, hT, scF]; simp only; rw [if_pos hE]; unfold woV; rw [if_pos hE]
set_option maxRecDepth 100000 in
set_option maxHeartbeats 2000000 in
theorem rScore_any (nm : ByteArray) (fa : Option Addr) (F cf : Nat) (N : Int) (ba : Option Addr) (base : List Int) (cb : Nat) (ta : Option Addr) (ts : List (Int × List Nd)) (ct : Nat) (ax : Option Addr) (xs : List Nat) (cx : Nat) (w : World)
    (hb : RdI w ba base) (hbl : base.length ≤ 17592186044416) (ht : RdT w ta ts) (htl : ts.length ≤ 17592186044416) (hx : RdF w ax xs) (hxl : xs.length ≤ 17592186044416) (hF : F ≤ 17592186044416) :
    Calls Try.prog 30 #[ens nm fa F cf N ba base.length cb ta ts.length ct, .slice ax xs.length cx] w fun e w' => ∃ v, e = .returned (.tuple #[v, .int .i64 (scS F N base ts xs).2]) ∧ OwnZ 2 w.heap.size w' v (scS F N base ts xs).1 ∧ Keep w w' := by
  unfold ens
  have k0 : Keep w (w.alloc (Obj.cells #[Value.string nm, Value.slice fa F cf, Value.int IntKind.i64 N, Value.slice ba base.length cb, Value.slice ta ts.length ct] 52)) := (Keep.refl w).alloc _
  by_cases h1 : N < 1
  · have HR : Hid (scS F N base ts xs = ([], 6)) := by show _ = _; unfold scS; rw [if_pos (.inl h1)]
    have h2 : decide (N < 1) = true := by simpa using h1
    go_enter Try.func30, Try.ntmps30
    go_wp2_with fail
    go_ret2
    rw [HR.out]
    exact ⟨_, rfl, OwnZ.nil _ _ _, k0⟩
  · have h2 : decide (N < 1) = false := by simpa using h1
    by_cases h3 : (base.length : Int) ≠ N
    · have HR : Hid (scS F N base ts xs = ([], 6)) := by show _ = _; unfold scS; rw [if_pos (.inr h3)]
      have h4 : ((base.length : Int) == N) = false := by simpa using h3
      have h5 : ((base.length : Int) != N) = true := by simpa using h3
      clear h3
      go_enter Try.func30, Try.ntmps30
      go_wp2_with fail
      go_ret2
      rw [HR.out]
      exact ⟨_, rfl, OwnZ.nil _ _ _, k0⟩
    · have h3' : (base.length : Int) = N := by simpa using h3
      subst h3'
      clear h3
      by_cases h4 : xs.length ≠ F
      · have HR : Hid (scS F base.length base ts xs = ([], 72)) := by show _ = _; unfold scS; rw [if_neg (by omega), if_pos h4]
        have h5 : ((xs.length : Int) == (F : Int)) = false := by rw [beq_eq_false_iff_ne]; omega
        have h6 : ((xs.length : Int) != (F : Int)) = true := by simp; omega
        clear h4
        go_enter Try.func30, Try.ntmps30
        go_wp2_with fail
        go_ret2
        rw [HR.out]
        exact ⟨_, rfl, OwnZ.nil _ _ _, k0⟩
      · have h4' : xs.length = F := by omega
        subst h4'
        clear h4 hF
        have HR : Hid (scS xs.length base.length base ts xs = scF base.length xs ts base) := by show _ = _; unfold scS; rw [if_neg (by omega), if_neg (by simp)]
        obtain ⟨w1, hw1⟩ : ∃ w1, w.alloc (Obj.cells #[Value.string nm, Value.slice fa xs.length cf, Value.int IntKind.i64 base.length, Value.slice ba base.length cb, Value.slice ta ts.length ct] 52) = w1 := ⟨_, rfl⟩
        have hb1 := hb.keep k0
        rw [hw1] at k0 hb1
        have cN : w1.cell? ⟨w.heap.size, 2, none⟩ = some (.int .i64 (base.length : Nat)) := by rw [← hw1, cell_of_row _ _ 2 _ 52 (0, 0) (heap_alloc_new w _)]; rfl
        have cT : w1.cell? ⟨w.heap.size, 4, none⟩ = some (.slice ta ts.length ct) := by rw [← hw1, cell_of_row _ _ 4 _ 52 (0, 0) (heap_alloc_new w _)]; rfl
        have hbw : w1.heap[w.heap.size]? = some (Obj.cells #[Value.string nm, Value.slice fa xs.length cf, Value.int IntKind.i64 base.length, Value.slice ba base.length cb, Value.slice ta ts.length ct] 52 (0, 0)) := by rw [← hw1]; exact heap_alloc_new w _
        have hz1 : w.heap.size < w1.heap.size := (Array.getElem?_eq_some_iff.1 hbw).1
        replace hbw : Hid _ := hbw
        replace hw1 : Hid _ := hw1
        go_enter Try.func30, Try.ntmps30
        go_wp2_with (at_builtin; rw [hw1.out]; refine wpList_copyB rfl _ _ rfl base ba cb ?_ ?_ hb1 hbl ?_; rotate_left 2; intro v w2 hO k2; have cT2 := k2.cell cT; have cN2 := k2.cell cN)
        have hO := hO.mono (Nat.le_of_lt hz1)
        obtain ⟨av, cv, rfl, hcv, hrv⟩ := hO.shape
        have hbx : w2.heap[w.heap.size]? = _ := (k2.block _ hz1).trans hbw.out
        have k02 := k0.trans k2
        obtain ⟨b0, o0, ea, -⟩ := hrv 0 (by omega)
        subst ea
        obtain ⟨g, ea⟩ : ∃ g, (⟨b0, o0, none⟩ : Addr) = ⟨g, 0, none⟩ := by
          rcases hO.2 with ⟨h, _⟩ | ⟨g, cap, cur, hv, _⟩
          · cases h
          · simp only [Value.slice.injEq, Option.some.injEq] at hv
            exact ⟨g, hv.1⟩
        rw [ea] at hO ⊢
        have hz : w.heap.size < w2.heap.size := (Array.getElem?_eq_some_iff.1 hbx).1
        clear hw1 k0 k2 h2 hrv ea cN cT cT2 cN2 hbw hb1 hb
        go_loopw [37] (fun iv wr => ∃ (k : Nat) (s : List Int), k ≤ ts.length ∧ iv = .int .i64 k ∧ s.length = base.length ∧ OwnZ 2 w.heap.size wr (.slice (some ⟨g, 0, none⟩) base.length cv) s ∧ Keep w wr ∧ wr.heap[w.heap.size]? = some (Obj.cells #[Value.string nm, Value.slice fa xs.length cf, Value.int IntKind.i64 base.length, Value.slice ba base.length cb, Value.slice ta ts.length ct] 52 (0, 0)) ∧ Hid (scF base.length xs ts base = scF base.length xs (ts.drop k) s)) (fun iv _ => ts.length - (intOf iv).toNat)
        case atStart => exact ⟨0, base, by omega, rfl, rfl, hO, k02, hbx, rfl⟩
        case round =>
          obtain ⟨k, s, hk, rfl, hsl, hO, kw, hbx, hsc⟩ := hrel
          clear k02
          by_cases hkl : k < ts.length
          · have hkc : (k : Int) < (ts.length : Int) := by omega
            obtain ⟨b, o, na, nc, rfl, d0, d1, dn, dc, dl, df⟩ := (ht.keep kw) k hkl
            obtain ⟨T, hT⟩ : ∃ T, ts.getD k (0, []) = T := ⟨_, rfl⟩
            have HT : Hid (ts.getD k (0, []) = T) := hT
            rw [hT] at d0 d1 dn dc dl df
            clear hT
            obtain ⟨ot, L⟩ := T
            simp only at d0 d1 dn dc dl df
            have hS := fun (wx : World) (kx : Keep wr wx) => rShape_any wx na nc ot L dl (dn.keep kx)
            have hW := fun (wx : World) (kx : Keep wr wx) => rWay_any na ax nc cx ot L xs dl hxl wx (dn.keep kx) ((hx.keep kw).keep kx)
            have kx : Keep wr (wr.alloc (Obj.cells #[Value.int IntKind.i64 ot, Value.slice na L.length nc] 24)) := (Keep.refl wr).alloc _
            have tbx : (wr.alloc (Obj.cells #[Value.int IntKind.i64 ot, Value.slice na L.length nc] 24)).heap[wr.heap.size]? = some (Obj.cells #[Value.int IntKind.i64 ot, Value.slice na L.length nc] 24 (0, 0)) := heap_alloc_new wr _
            have hzr : w.heap.size < wr.heap.size := (Array.getElem?_eq_some_iff.1 hbx).1
            by_cases hE : shE L = 0
            · rw [hE] at hS
              by_cases hor : ot < 0 ∨ (base.length : Int) ≤ ot
              · have HF : Hid (scF base.length xs ts base = ([], 6)) := by show _ = _; rw [hsc.out]; exact scF_bad hkl HT.out (woE_out hE hor) (by decide)
                clear hsc
                go_wp2_with fail
                generalize wr.alloc _ = w4 at kx tbx ⊢
                have hz4 : wr.heap.size < w4.heap.size := (Array.getElem?_eq_some_iff.1 tbx).1
                refine (hS _ kx).mono ?_
                rintro e w5 ⟨rfl, k5⟩
                have k45 := kx.trans k5
                have tb5 := (k5.block _ hz4).trans tbx
                have hbx5 : w5.heap[w.heap.size]? = _ := (k45.block _ hzr).trans hbx
                have c0 := cell_of_row _ _ 0 _ 24 (0, 0) tb5
                have cN := cell_of_row _ _ 2 _ 52 (0, 0) hbx5
                simp at c0 cN
                replace tb5 : Hid _ := tb5
                replace hbx5 : Hid _ := hbx5
                by_cases h0 : ot < 0
                · have g1 : decide (ot < 0) = true := by simpa using h0
                  go_wp2_with fail
                  go_ret2
                  rw [HR.out, HF.out]
                  exact ⟨_, rfl, OwnZ.nil _ _ _, kw.trans k45⟩
                · have g1 : decide (ot < 0) = false := by simpa using h0
                  have g2 : decide ((base.length : Int) ≤ ot) = true := by simp; omega
                  have g3 : (base.length : Int) ≤ ot := by omega
                  go_wp2_with fail
                  go_ret2
                  rw [HR.out, HF.out]
                  exact ⟨_, rfl, OwnZ.nil _ _ _, kw.trans k45⟩
              · have hot0 : 0 ≤ ot := by omega
                have hot1 : ot < (base.length : Int) := by omega
                obtain ⟨u, rfl⟩ := Int.eq_ofNat_of_zero_le hot0
                have hwe := woE_way (m := xs.length) hE hor
                have hub : u < base.length := by omega
                have g1 : ¬ (u : Int) < 0 := by omega
                have g3 : ¬ (base.length : Int) ≤ (u : Int) := by omega
                by_cases hwy : wyE L xs.length = 0
                · have hst : scF base.length xs (ts.drop k) s = _ := scF_good hkl HT.out (hwe.trans hwy)
                  obtain ⟨hS0, hlk⟩ := wyE_ok hwy
                  obtain ⟨l, hl, hK, hen, hll⟩ := way_last (xs := xs) hS0
                  have hy : wyL L xs = l ++ [endN L xs] := by unfold wyL; rw [if_pos hwy]; exact hl
                  rw [hwy, hy] at hW
                  rw [hl] at hll
                  simp only [List.length_append, List.length_singleton] at hll
                  obtain ⟨bn, on, can, cpn, rfl, hnd⟩ := dn (endN L xs) hen
                  have hv := hnd.c1
                  generalize endN L xs = en at *
                  generalize hVe : (L.getD en nd0).vl = V at *
                  clear hnd hK hl hy hlk hS0 hwy hwe hor
                  go_wp2_with fail
                  generalize wr.alloc _ = w4 at kx tbx ⊢
                  have hz4 : wr.heap.size < w4.heap.size := (Array.getElem?_eq_some_iff.1 tbx).1
                  refine (hS _ kx).mono ?_
                  rintro e w5 ⟨rfl, k5⟩
                  have k45 := kx.trans k5
                  have tb5 := (k5.block _ hz4).trans tbx
                  have hbx5 : w5.heap[w.heap.size]? = _ := (k45.block _ hzr).trans hbx
                  have c0 := cell_of_row _ _ 0 _ 24 (0, 0) tb5
                  have c1 := cell_of_row _ _ 1 _ 24 (0, 0) tb5
                  have cN := cell_of_row _ _ 2 _ 52 (0, 0) hbx5
                  simp at c0 c1 cN
                  have hz5 : wr.heap.size < w5.heap.size := (Array.getElem?_eq_some_iff.1 tb5).1
                  replace tb5 : Hid _ := tb5
                  replace hbx5 : Hid _ := hbx5
                  have hW5 := hW _ k45
                  clear hW hS k5 kx d0 d1
                  go_wp2_with fail
                  refine hW5.mono ?_
                  rintro e w6 ⟨v6, rfl, ho6, hb6, k6⟩
                  obtain ⟨g6, cv6, rfl, hcv6, hg6, hcell6⟩ := ho6.cells (by simp)
                  have hce := hcell6 l.length (by simp)
                  rw [show (l ++ [en]).getD l.length 0 = en by simp [List.getD]] at hce
                  have hlen : (l ++ [en]).length = l.length + 1 := by simp
                  rw [hlen] at hcv6 ⊢
                  have k46 := k45.trans k6
                  have c0 := k6.cell c0
                  have c1 := k6.cell c1
                  have hv6 := k46.cell hv
                  have hO6 := hO.keep k46
                  have hbx6 : w6.heap[w.heap.size]? = _ := (k46.block _ hzr).trans hbx
                  have kw6 := kw.trans k46
                  clear hW5 ho6 hb6 hcell6 hlen hv cN hbx5 tb5 tbx dn
                  obtain ⟨hgB, cur, hgc⟩ := hO6.block (b := g) rfl
                  have hgne : g ≠ w.heap.size := by
                    intro e
                    rw [e, hbx6] at hgc
                    simp at hgc
                  obtain ⟨_, _, he, _, hrd6⟩ := hO6.shape
                  simp only [Value.slice.injEq, Option.some.injEq] at he
                  obtain ⟨rfl, -, -⟩ := he
                  obtain ⟨b', o', eb, hcu⟩ := hrd6 u (by omega)
                  simp only [Option.some.injEq, Addr.mk.injEq, and_true] at eb
                  obtain ⟨rfl, rfl⟩ := eb
                  rw [← hsl] at hO6
                  obtain ⟨hset, hfz⟩ := hO6.set u (by omega) (wrap64 (s.getD u 0 + V))
                  rw [Nat.zero_add] at hcu
                  generalize hsu : s.getD u 0 = su at hcu hset
                  rw [show (u : Int).toNat = u from rfl, hsu] at hst
                  replace hst : Hid _ := hst
                  have hub' : (u : Int) < (base.length : Int) := by omega
                  have hen' : (en : Int) < (L.length : Int) := by omega
                  clear hrd6 hO hO6 hsu hgc
                  rw [hsl] at hset
                  replace hbx6 : Hid _ := hbx6
                  have wr1 : IntKind.i64.wrap (l.length : Int) = (l.length : Int) := IntWalk.i64_in _ (by omega)
                  have wr3 : (l.length : Int) < (l.length : Int) + 1 := by omega
                  have wr4 : (l.length : Int) < ((l.length + 1 : Nat) : Int) := by omega
                  have wr5 : (0 : Int) ≤ (l.length : Int) := by omega
                  go_wp2_with fail
                  go_region_with fail
                  all_goals
                    go_simp
                    go_wp2_with fail
                    refine ⟨⟨k + 1, s.set u (wrap64 (su + V)), by omega, by go_num, by simp [hsl], hset.same (fun _ _ => rfl), (kw6.setCell hgB _).drew, ?_, ?_⟩, by simp [intOf]; omega⟩
                    · show (w6.setCell ⟨g, u, none⟩ _).heap[w.heap.size]? = _
                      rw [neq_set w6 g u _ w.heap.size (fun e => hgne e.symm)]; exact hbx6.out
                    · show _ = _
                      rw [hsc.out, hst.out]
                · have HF : Hid (scF base.length xs ts base = ([], wyE L xs.length)) := by show _ = _; rw [hsc.out]; exact scF_bad hkl HT.out hwe hwy
                  have g5 : (wyE L xs.length == 0) = false := by simpa using hwy
                  have g6 : (wyE L xs.length != 0) = true := by simpa using hwy
                  clear hsc hwe hor
                  generalize wyE L xs.length = E at *
                  go_wp2_with fail
                  generalize wr.alloc _ = w4 at kx tbx ⊢
                  have hz4 : wr.heap.size < w4.heap.size := (Array.getElem?_eq_some_iff.1 tbx).1
                  refine (hS _ kx).mono ?_
                  rintro e w5 ⟨rfl, k5⟩
                  have k45 := kx.trans k5
                  have tb5 := (k5.block _ hz4).trans tbx
                  have hbx5 : w5.heap[w.heap.size]? = _ := (k45.block _ hzr).trans hbx
                  have c0 := cell_of_row _ _ 0 _ 24 (0, 0) tb5
                  have c1 := cell_of_row _ _ 1 _ 24 (0, 0) tb5
                  have cN := cell_of_row _ _ 2 _ 52 (0, 0) hbx5
                  simp at c0 c1 cN
                  replace tb5 : Hid _ := tb5
                  replace hbx5 : Hid _ := hbx5
                  have hW5 := hW _ k45
                  go_wp2_with fail
                  refine hW5.mono ?_
                  rintro e w6 ⟨v6, rfl, ho6, hb6, k6⟩
                  go_wp2_with fail
                  go_ret2
                  rw [HR.out, HF.out]
                  exact ⟨_, rfl, OwnZ.nil _ _ _, kw.trans (k45.trans k6)⟩
            · have HF : Hid (scF base.length xs ts base = ([], shE L)) := by show _ = _; rw [hsc.out]; exact scF_bad hkl HT.out (woE_shape hE) hE
              have hB : (shE L == 0) = false := by simpa using hE
              have hB2 : (shE L != 0) = true := by simpa using hE
              clear hsc hE
              generalize shE L = E at *
              go_wp2_with fail
              generalize wr.alloc _ = w4 at kx tbx ⊢
              refine (hS _ kx).mono ?_
              rintro e w5 ⟨rfl, k5⟩
              go_wp2_with fail
              go_ret2
              rw [HR.out, HF.out]
              exact ⟨_, rfl, OwnZ.nil _ _ _, kw.trans (kx.trans k5)⟩
          · have hkc : ¬ (k : Int) < (ts.length : Int) := by omega
            have HF : Hid (scF base.length xs ts base = (s, 0)) := by show _ = _; rw [hsc.out, List.drop_eq_nil_of_le (by omega)]; rfl
            clear hsc
            go_wp2_with fail
            go_ret2
            rw [HR.out, HF.out]
            exact ⟨_, rfl, hO, kw⟩
end Go.Proofs.Ytbchinfmdioijaa
