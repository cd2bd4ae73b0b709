import Derived.Test.YtaogjiffnebnkaaV6
import Derived.Deep.CutRange
import Derived.Deep.CutBlock
import Derived.BigRegion
import Derived.Deep.QuietTactic
import Derived.BigQuiet
set_option linter.unusedVariables false
set_option linter.unusedSimpArgs false
namespace Go.Proofs.Ytaogjiffnebnkaa
open Go.RowKit Go.Shelf Go.Maps
attribute [local go_sem] run_store_float
theorem firE_zero {F : Int} : ∀ (ts : List (Int × List Nd)), firE ts F = 0 → ∀ j, j < ts.length → tkE (ts.getD j (0, [])).2 F = 0
  | [], _, j, hj => by simp at hj
  | t :: ts, h, j, hj => by
    unfold firE at h
    by_cases q : tkE t.2 F = 0
    · rw [if_neg (by simpa using q)] at h
      cases j with
      | zero => simpa using q
      | succ j => simpa using firE_zero ts h j (by simpa using hj)
    · rw [if_pos q] at h; exact absurd h q
/-- The reference's lists, as they lie. -/
def RsAt (w0 w' : World) (v : Value) (X : GX) (A : List Nat) : Prop :=
  (∀ i, i < X.n → ∀ j, j < 3 → OwnC w0.heap.size w' (X.v i j) (X.K i j)) ∧ (∀ i, i < X.n → ∀ j, j < 3 → ∀ r ∈ X.K i j, OwnZ 3 w0.heap.size w' (.slice r.2.1 r.1.cs.length r.2.2) r.1.cs ∧ r.1.cs.length ≤ 17592186044416) ∧ OwnL w0.heap.size w' v (A.map (item X)) ∧ A.Perm (List.range X.n) ∧ A.Pairwise fun i j => X.f i < X.f j
theorem wrap_up3 {k n : Nat} (h : n ≤ 268435456) (h1 : k + 1 ≤ n) : wrap64 ((k : Int) + 1) = ((k + 1 : Nat) : Int) := by
  unfold wrap64; omega
set_option maxRecDepth 100000 in
set_option maxHeartbeats 4000000 in
theorem rOf_any (a : Option Addr) (cap : Nat) (ts : List (Int × List Nd)) (F : Int) (w : World) (ht : RdT w a ts) :
    Calls Try.prog 11 #[.slice a ts.length cap, .int .i64 F] w fun e w' => ∃ v, e = .returned (.tuple #[v, .int .i64 (ofE ts F)]) ∧ Keep w w' ∧ (ofE ts F ≠ 0 → v = .slice none 0 0) ∧ (ofE ts F = 0 → ∃ X, ConR X (gall ts) ∧ ∃ A, RsAt w w' v X A) := by
  have hErr := rError_any a cap ts F w ht
  obtain ⟨n, hn⟩ : ∃ n, ts.length = n := ⟨_, rfl⟩
  rw [hn] at hErr ⊢
  by_cases hE : ofE ts F = 0
  · have c1 : (ofE ts F != 0) = false := by rw [bne_eq_false_iff_eq]; exact hE
    have hn6 : Hid (n ≤ 65536) := by
      show _ ≤ _
      unfold ofE at hE
      rw [hn] at hE
      by_cases q1 : F < 0 ∨ 65536 < F
      · rw [if_pos q1] at hE; cases hE
      · rw [if_neg q1] at hE
        by_cases q2 : 65536 < n
        · rw [if_pos q2] at hE; cases hE
        · omega
    have hT : Hid (∀ j, j < n → tkE (ts.getD j (0, [])).2 F = 0) := by
      unfold ofE at hE
      rw [hn] at hE
      by_cases q1 : F < 0 ∨ 65536 < F
      · rw [if_pos q1] at hE; cases hE
      · rw [if_neg q1] at hE
        by_cases q2 : 65536 < n
        · rw [if_pos q2] at hE; cases hE
        · rw [if_neg q2] at hE
          intro j hj
          exact firE_zero ts hE j (by omega)
    replace hE : Hid _ := hE
    replace ht : Hid _ := ht
    have hmm := @run_makeMap Try.prog
    go_enter Try.func11, Try.ntmps11
    go_wp2_with (first | (go_at_call 35; refine hErr.mono ?_; rintro e w1 ⟨rfl, k1⟩; replace k1 : Keep w w1 := k1))
    have hG0 : Hid (HJ w.heap.size (w1.alloc (.map #[] 0)) w1.heap.size GX.nil) := HJ.nil _ w1 k1.le
    have hk0 : Hid (Keep w (w1.alloc (.map #[] 0))) := k1.alloc _
    clear hErr
    go_loopw [8, 9] (fun vo iv wr => ∃ (k : Nat) (X : GX), iv = .int .i64 (k : Int) ∧ k ≤ n ∧ HJ w.heap.size wr w1.heap.size X ∧ OwnL w.heap.size wr vo (its X) ∧ Hid (ConR X (gall (ts.take k))) ∧ Hid (X.n ≤ (gall (ts.take k)).length) ∧ Hid ((gall (ts.take k)).length ≤ k * 4096) ∧ Hid (∀ s ∈ gall (ts.take k), okT s.2) ∧ Keep w wr) (fun _ iv _ => n - (intOf iv).toNat)
    case atStart => exact ⟨0, GX.nil, rfl, by omega, hG0.out, OwnL.nil _ _, ConR.nil, Nat.le_refl _, Nat.le_refl _, fun s hs => (by cases hs), hk0.out⟩
    case round =>
      obtain ⟨k, X, rfl, hk, hG, hO, hC, hX, hgl, hok, kw⟩ := hrel
      by_cases hkl : k < n
      · have hkc : (k : Int) < (n : Int) := by omega
        have hk1 : Hid (k + 1 ≤ n) := hkl
        have hkl' : k < ts.length := by omega
        obtain ⟨b, o, na, nc, rfl, t0, t1, hN, -, hsz, -⟩ := ht.out k hkl'
        have c5 := kw.cell t0
        have c6 := kw.cell t1
        have HT : Hid (ts.take (k + 1) = ts.take k ++ [ts.getD k (0, [])]) := by
          show _ = _
          rw [List.take_succ_eq_append_getElem hkl']; simp [List.getD, hkl']
        have HL : Hid ((ts.take k).length = k) := by show _ = _; rw [List.length_take]; omega
        have hTk := hT.out k hkl
        generalize ts.getD k (0, []) = t at *
        obtain ⟨out, L⟩ := t
        simp only at c5 c6 hN hsz hTk
        have hE2 := tkE_tr hTk
        have hM := Mk.rMarks_any na nc out (L.map Nd.m) (by simpa using hsz) wr (hN.keep kw).m
        rw [List.length_map] at hM
        replace hTk : Hid _ := hTk
        go_wp2_with (first | (go_at_call 36; refine hM.mono ?_; rintro e w2 ⟨v, l, rfl, hOM, -, hl1, k2⟩; replace k2 : Keep wr w2 := k2; obtain ⟨av, cv, rfl, hcv, -⟩ := hOM.shape))
        obtain ⟨hml, hmm2⟩ := mkl_ok hE2
        obtain rfl : l = mkl L := by
          obtain ⟨-, -, -, b, hb, -, -⟩ := Mk.lvE_ok hE2
          rw [mkl_of hb]; exact hl1 b hE2 hb
        have hkind : Hid (∀ m ∈ mkl L, (L.getD m.1 nd0).kd = 2 ∨ (L.getD m.1 nd0).kd = 3) := by
          intro m hm
          obtain ⟨-, hR, -, b, hb, -, hn⟩ := Mk.lvE_ok hE2
          rw [mkl_of hb] at hm
          obtain ⟨h1, h2, -, -⟩ := mks_mem hR.wi hb hR.1 0 m hm
          simp only [Mk.shp, decide_eq_true_eq, getD_m] at h2
          exact h2
        have hnan := gat_nan hE2 (k : Int)
        have hth := gat_th hN hE2 (k : Int)
        replace hnan : Hid _ := hnan
        replace hth : Hid _ := hth
        obtain ⟨n2, hn2⟩ : ∃ n2, (mkl L).length = n2 := ⟨_, rfl⟩
        rw [hn2] at hOM hcv ⊢
        have hml2 : Hid (n2 ≤ 4096) := by show _ ≤ _; omega
        replace hmm2 : Hid _ := hmm2
        replace hE2 : Hid _ := hE2
        have kw2 : Hid (Keep w w2) := Keep.trans kw k2
        have hG2 : Hid (HJ w.heap.size w2 w1.heap.size X) := hG.keep k2
        have hO2 : Hid (OwnL w.heap.size w2 u8 (its X)) := hO.keep k2
        replace hn2 : Hid _ := hn2
        replace hN : Hid _ := hN
        clear hl1 hM c5 c6 t0 hG hO kw k2 hml
        replace t1 : Hid _ := t1
        go_loopw [8, 12] (fun vo iv wx => ∃ (j : Nat) (Xj : GX), iv = .int .i64 (j : Int) ∧ j ≤ n2 ∧ HJ w.heap.size wx w1.heap.size Xj ∧ OwnL w.heap.size wx vo (its Xj) ∧ Hid (ConR Xj (gall (ts.take k) ++ (gat L (k : Int)).take j)) ∧ Hid (Xj.n ≤ (gall (ts.take k)).length + j) ∧ Keep w wx ∧ KT w2 wx) (fun _ iv _ => n2 - (intOf iv).toNat)
        case atStart => exact ⟨0, X, rfl, by omega, hG2.out, hO2.out, by show ConM _ _ _; simpa using hC.out, hX.out, kw2.out, KT.refl _⟩
        case round =>
          obtain ⟨j, Xj, rfl, hj, hG, hO, hCj, hXj, kw, kt⟩ := hrel
          by_cases hjl : j < n2
          · have hjc : (j : Int) < (n2 : Int) := by omega
            have hj1 : Hid (j + 1 ≤ n2) := hjl
            obtain ⟨av', cv', e1, -, hR⟩ := (OwnM_kt hOM kt).shape
            simp only [Value.slice.injEq] at e1
            obtain ⟨rfl, -, -⟩ := e1
            obtain ⟨bm, om, rfl, m0, m1, m2⟩ := hR j (by rw [hn2.out]; exact hjl)
            have hmem : (mkl L).getD j Mk.m0 ∈ mkl L := by
              have : (mkl L).getD j Mk.m0 = (mkl L)[j]'(by rw [hn2.out]; exact hjl) := by simp [List.getD, hn2.out, hjl]
              rw [this]; exact List.getElem_mem _
            obtain ⟨f1, f2, f3, f4, f5⟩ := hmm2.out _ hmem
            have HK : Hid _ := hkind.out _ hmem
            have HS : Hid ((gat L (k : Int)).take (j + 1) = (gat L (k : Int)).take j ++ [mct L (k : Int) ((mkl L).getD j Mk.m0)]) := by
              show _ = _
              unfold gat
              rw [List.take_add_one]
              simp [List.getD, hn2.out, hjl]
            have HM : Hid (mct L (k : Int) ((mkl L).getD j Mk.m0) ∈ gat L (k : Int)) := List.mem_map.2 ⟨_, hmem, rfl⟩
            unfold mct at HS HM
            generalize (mkl L).getD j Mk.m0 = m at *
            have hmi : ((m.1 : Nat) : Int) < (L.length : Int) := by omega
            obtain ⟨bn, on, ca, cp, rfl, hnd⟩ := hN.out m.1 f1
            have hnw := hnd.keep kw
            generalize L.getD m.1 nd0 = d at *
            have T1 := kw.cell t1.out
            have c0 := hnw.c0
            have c1' := hnw.c1
            have c2 := hnw.c2
            have c3 := hnw.c3
            have c4 := hnw.c4
            have c5 := hnw.c5
            have c6 := hnw.c6
            have c7 := hnw.c7
            have lt1 := World.block_lt_of_cell? wr _ T1
            have lt2 := World.block_lt_of_cell? wr _ c0
            have lt3 := World.block_lt_of_cell? wr _ m0
            simp only at lt1 lt2 lt3
            clear hR
            go_upto_region 13 with fail
            go_big_region
            generalize hw3 : (wr.alloc (Obj.cells #[Value.int IntKind.u8 d.kd, Value.int IntKind.i64 d.vl, Value.int IntKind.i64 d.ft, Value.float FloatKind.f64 d.th, Value.slice ca d.cs.length cp, Value.int IntKind.u8 d.ms, Value.int IntKind.i64 d.lf, Value.int IntKind.i64 d.rt] 83)).drew = w3
            have k3 : Keep wr w3 := by rw [← hw3]; exact ((Keep.refl wr).alloc _).drew
            have r3 : w3.heap[wr.heap.size]? = some (Obj.cells (d.cells ca cp) 83 (0, 0)) := by rw [← hw3]; exact heap_alloc_new wr _
            have n3 : w3.cell? ⟨wr.heap.size, 3, none⟩ = some (.float .f64 d.th) := by rw [cell_of_row w3 _ 3 _ 83 (0, 0) r3]; rfl
            have n4 : w3.cell? ⟨wr.heap.size, 4, none⟩ = some (.slice ca d.cs.length cp) := by rw [cell_of_row w3 _ 4 _ 83 (0, 0) r3]; rfl
            have m1' := k3.cell m1
            have m2' := k3.cell m2
            have hrd := hnw.rd.keep k3
            have hsz := hnd.sz
            obtain ⟨nb, hnb⟩ : ∃ nb, wr.heap.size = nb := ⟨_, rfl⟩
            rw [hnb] at r3 n3 n4 ⊢
            replace hw3 : Hid _ := hw3
            replace r3 : Hid _ := r3
            clear c0 c1' c2 c3 c4 c5 c6 c7 lt1 lt2 lt3 T1 m0 hnw
            go_upto_region 14 with fail
            refine refRegion14 n3 n4 m1' m2' hjc hrd hsz (fun _ _ d _ _ h => by cases d <;> exact h) _ _ _ _ _ _ _ _ _ _ _ _ _ _ _ _ _ _ _ _ _ _ _ _ _ _ _ _ _ _ _ _ _ _ _ _ _ _ _ _ _ _ _ _ _ _ _ _ _ _ _ _ _ _ _ _ _ _ _ _ _ _ _ _ _ _ _ _ _ _ _ _ _ _ _ _ _ _ _ _ _ _ _ _ _ _ _ _ _ _ _ _ _ _ _ _ _ _ _ _ _ _ _ _ _ _ _ _ _ _ _ _ _ _ _ _ _ _ _ _ _ _ _ _ _ _ _ _ _ _ _ _ _ _ _ _ _ _ _ _ _ _ _ _ _ _ _ _ _ _ _ _ _ _ _ _ _ _ _ _ _ _ _ _ _ _ _ _ _ _ _ ?_
            intro U58 U59 U60 U61 U62 U63 U64 U65 U66 U67 U68 U69 U70 U71 U72 U73 U74 U75 cb va cc w4 hMk
            have hSt := RS.start hG hO kw kt k3 r3.out hMk hsz
            have hfi := hG.fi
            replace hfi : Hid _ := hfi
            have hXn : Hid (Xj.n < 268435456) := by
              have := hXj.out
              have := hgl.out
              have := hn6.out
              have := hml2.out
              show _ < _
              omega
            have hwf : (iL d.ft).wf = true := by simp [iL, Lit.wf, IntKind.min, IntKind.max, IntKind.bits, IntKind.signed]; omega
            obtain ⟨N, hN'⟩ : ∃ N : Ct, (⟨d.th, d.cs, (k : Int), (m.2.1 : Nat), (m.2.2 : Nat)⟩ : Ct) = N := ⟨_, rfl⟩
            have hNs : N.cs.length ≤ 17592186044416 := by rw [← hN']; exact hsz
            rw [hN'] at hSt hMk
            have HN : Hid ((⟨d.th, d.cs, (k : Int), (m.2.1 : Nat), (m.2.2 : Nat)⟩ : Ct) = N) := hN'
            have HMk : Hid _ := hMk
            clear hN' hMk hG hO kw kt k3 n3 n4 m1' m2' m1 m2 hrd hnd
            have nd2 := hSt.nd.2.1
            obtain ⟨u, hu⟩ : ∃ u, plc Xj d.ft u := by
              by_cases hh : ∃ i, i < Xj.n ∧ Xj.f i = d.ft
              · obtain ⟨i, hi, hf⟩ := hh
                exact ⟨i + 1, .inr ⟨i, hi, hf, rfl⟩⟩
              · exact ⟨0, .inl ⟨fun i hi e => hh ⟨i, hi, e⟩, rfl⟩⟩
            have hlk := hSt.G.look hwf u hu
            replace hlk : Hid _ := hlk
            replace hu : Hid _ := hu
            go_upto_if 80 with (first | (at_lookup; refine wpList_lookI rfl _ _ rfl w1.heap.size d.ft rfl rfl _ hlk.out ?_) | go_in)
            go_cut [8] from 40 to 130 (fun s8 wx => ∃ (X1 : GX) (i : Nat), RS w w2 w1.heap.size s8 (its X1) X1 nb cb d ca cp N va cc wx ∧ i < X1.n ∧ X1.f i = d.ft ∧ Hid (ConM X1 (gall (ts.take k) ++ (gat L (k : Int)).take j) fun ψ => ψ = d.ft) ∧ X1.n ≤ Xj.n + 1)
            case first =>
              rcases hu.out with ⟨hn', rfl⟩ | ⟨i, hi, hf, rfl⟩
              · have hown := hSt.out
                have hlT : (its Xj).length + 1 ≤ 1099511627776 := by rw [its_len]; have := hXn.out; omega
                have hB4 := hSt.k0.le
                replace hn' : Hid _ := hn'
                have hwN : (Lit.int .i64 ((Xj.n + 1 : Nat) : Int)).wf = true := by have := hXn.out; simp [Lit.wf, IntKind.min, IntKind.max, IntKind.bits, IntKind.signed]; omega
                obtain ⟨q, hq⟩ : ∃ q, Xj.n + 1 = q := ⟨_, rfl⟩
                rw [hq] at hwN
                replace hq : Hid _ := hq
                replace hlT : Hid _ := hlT
                replace hwN : Hid _ := hwN
                go_wp2_with (first
                  | (at_builtin; refine wpList_appL w.heap.size _ rfl _ _ rfl (its Xj) ⟨d.ft, none, 0, 0, none, 0, 0, none, 0, 0⟩ u8 ?_ (hown.keep ((Keep.refl w4).alloc _)) (Nat.le_trans hB4 ((Keep.refl w4).alloc _).le) ⟨w4.heap.size, 0, none⟩ 1 ?_ (newsL _ _ rfl ⟨d.ft, none, 0, 0, none, 0, 0, none, 0, 0⟩) hlT.out ?_; rotate_left 2; intro v5 w5 hO5 g5 hv5; obtain ⟨hS5, g9, cap9, e9⟩ := hSt.grow hO5 g5 hq.out; have nd5 := hS5.nd.2.1; subst e9; obtain ⟨D, hD1, hD2⟩ := hS5.G.map; replace hS5 : Hid _ := hS5; replace hO5 : Hid _ := hO5; replace g5 : Hid _ := g5)
                  | (at_mapUpdate; refine wpList_mapUpdate_own _ rfl _ _ _ 78 rfl 3 3 law3 Try.underlying78 (plainElem Try.prog 3) w1.heap.size Xj.n D rfl hD1 (by unfold maxLen; have := hXn.out; omega) _ _ _ rfl rfl (keyOf_int_mk Try.underlying3 hwf) _ [] (plainElem_int Try.underlying3 hwN.out) ?_; intro w6 hown6 hg6)
                  | go_in)
                · go_meet
                  case rel =>
                    rw [← hq.out] at hown6
                    have hS6 := hS5.out.mapped hn'.out hD2 hown6 hg6
                    rw [its_put Xj d.ft 0] at hS6
                    exact ⟨Xj.put d.ft 0, Xj.n, hS6, by simp [GX.put], by simp [GX.put], hCj.out.put hn'.out, Nat.le_refl _⟩
                all_goals rfl
              · have hz : (((i + 1 : Nat) : Int) == 0) = false := by rw [beq_eq_false_iff_ne]; omega
                go_wp2_with fail
                go_meet
                case rel => exact ⟨Xj, i, hSt, hi, hf, hCj.out.has hi hf, Nat.le_succ _⟩
            case rest =>
              obtain ⟨X1, i, hSt1, hi, hf, hCM, hXn1⟩ := hcut
              clear hSt hlk hu
              obtain ⟨W, hW⟩ : ∃ W, W = wc := ⟨_, rfl⟩
              subst hW
              have hi1 : Hid (X1.n < 268435457) := by have := hXn.out; show _ < _; omega
              obtain ⟨n1, hn1⟩ : ∃ n1, X1.n = n1 := ⟨_, rfl⟩
              have hlk := hSt1.G.look hwf (i + 1) (.inr ⟨i, hi, hf, rfl⟩)
              obtain ⟨a0, c0, a1, c1, a2, c2, y0, y1, y2, hit⟩ := item_shape (hSt1.G.row i hi 0 (by omega)) (hSt1.G.row i hi 1 (by omega)) (hSt1.G.row i hi 2 (by omega))
              obtain ⟨g9, cap9, e9, -⟩ := hSt1.out.shape (by rw [its_len]; omega)
              rw [its_len, hn1] at e9
              subst e9
              have at1 := hSt1.out.at (j := i) (by rw [its_len]; exact hi)
              rw [its_at X1 hi, hit] at at1
              have q0 := at1.c0
              have q1 := at1.c1
              have q2 := at1.c2
              have q3 := at1.c3
              clear at1
              have b1 : (i : Int) < (n1 : Int) := by omega
              have b2 : wrap64 (i : Int) = (i : Int) := by have := hi1.out; unfold wrap64; omega
              obtain ⟨nd0, nd2', nd5⟩ := hSt1.nd
              obtain ⟨hSt2, hx2⟩ := hSt1.box (i := i) (vs := #[.int .i64 d.ft, .slice a0 (X1.K i 0).length c0, .slice a1 (X1.K i 1).length c1, .slice a2 (X1.K i 2).length c2]) (by rw [y0, y1, y2, hf])
              have hlen : ∀ j', j' < 3 → (X1.K i j').length + 1 ≤ 1099511627776 := by
                intro j' hj'
                have h1 := hCM.out.len hi hj'
                have h2 := hgl.out
                have h3 := hn6.out
                have h4 := hml2.out
                rw [List.length_append, List.length_take] at h1
                omega
              have hFall : ∀ y ∈ X1.K i 0 ++ [(N, va, cc)], okT y.1 := by
                intro y hy
                have hN1 : okT N := ⟨by have := hth.out _ HM.out; rw [HN.out] at this; exact this, by have := hnan.out _ HM.out; rw [HN.out] at this; exact this⟩
                rcases List.mem_append.1 hy with hy | hy
                · refine hCM.out.th (R := okT) (fun s hs => ?_) hi y hy
                  rcases List.mem_append.1 hs with hs | hs
                  · exact hok.out s hs
                  · exact ⟨hth.out s (List.mem_of_mem_take hs), hnan.out s (List.mem_of_mem_take hs)⟩
                · rw [List.mem_singleton.1 hy]; exact hN1
              replace hlk : Hid _ := hlk
              replace hSt1 : Hid _ := hSt1
              replace hn1 : Hid _ := hn1
              rw [hf] at q0
              replace hf : Hid _ := hf
              replace hlen : Hid _ := hlen
              replace hFall : Hid _ := hFall
              replace hit : Hid _ := hit
              replace y0 : Hid _ := y0
              replace y1 : Hid _ := y1
              replace y2 : Hid _ := y2
              replace hi : Hid _ := hi
              replace hSt2 : Hid _ := hSt2
              replace hx2 : Hid _ := hx2
              replace hXn1 : Hid _ := hXn1
              clear hNs nd2
              go_upto_region 19 with (first | (at_lookup; refine wpList_lookI rfl _ _ rfl w1.heap.size d.ft rfl rfl _ hlk.out ?_) | go_in)
              obtain ⟨WA, hWA⟩ : ∃ WA, W.alloc (Obj.cells #[Value.int .i64 d.ft, .slice a0 (X1.K i 0).length c0, .slice a1 (X1.K i 1).length c1, .slice a2 (X1.K i 2).length c2] 33) = WA := ⟨_, rfl⟩
              have hStA := hSt2.out
              have hxA := hx2.out
              rw [hWA] at hStA hxA
              rw [hWA]
              obtain ⟨xb, hxb⟩ : ∃ xb, W.heap.size = xb := ⟨_, rfl⟩
              rw [hxb] at hxA
              rw [hxb]
              clear hWA hxb hSt2 hx2 q0 q1 q2 q3 nd0 nd2' nd5 hlk
              obtain ⟨A0, A2, A5⟩ := hStA.nd
              obtain ⟨C0, C1, C2, C3, C4⟩ := hStA.ct
              obtain ⟨B0, B1, B2, B3, F1, F2, F3⟩ := hxA.cells
              have hB4 := hStA.k0.le
              replace hStA : Hid _ := hStA
              replace hxA : Hid _ := hxA
              by_cases hkd : d.kd = 2
              · have hk3 : (((d.kd : Nat) : Int) == 3) = false := by rw [hkd]; rfl
                replace hkd : Hid _ := hkd
                go_upto_region 22 with (first | (go_at_call 37; refine (put_any w.heap.size WA (X1.v i 0) (X1.K i 0) (N, va, cc) (hStA.out.G.row i hi.out 0 (by omega)) hB4 (hCM.out.num i hi.out).1 hFall.out (hlen.out 0 (by omega))).mono ?_; rintro e w5 ⟨v5, K5, rfl, hO5, hsr, hev, g5, hv5⟩; obtain ⟨hx5, hS5, hy5⟩ := hStA.out.rep (j := 0) hi.out (by omega) hxA.out hO5 (fun r hr => (List.mem_append.1 (hev.mem hr)).imp id (fun q => List.mem_singleton.1 q)) g5 hv5; obtain ⟨-, E15, E25, E35, G15, G25, G35⟩ := hx5.cells; obtain ⟨s5, t5, e5, -, -⟩ := hO5.shape; generalize hl5 : K5.length = l5 at e5; subst e5; replace hS5 : Hid _ := hS5; replace hy5 : Hid _ := hy5; replace hx5 : Hid _ := hx5; replace hO5 : Hid _ := hO5; replace g5 : Hid _ := g5; replace hv5 : Hid _ := hv5; replace hl5 : Hid _ := hl5; replace hsr : Hid _ := hsr; replace hev : Hid _ := hev))
                obtain ⟨WB, hWB⟩ : ∃ WB, w5.setCell ⟨xb, 1, none⟩ (.slice s5 l5 t5) = WB := ⟨_, rfl⟩
                have hStWB := hS5.out
                have hxWB := hy5.out
                rw [hWB] at hStWB hxWB
                rw [hWB]
                obtain ⟨X2, hX2⟩ : ∃ X2, X1.rep i 0 (.slice s5 l5 t5) K5 = X2 := ⟨_, rfl⟩
                rw [hX2] at hStWB hxWB
                have hX2n : X2.n = X1.n := by rw [← hX2]; rfl
                have hX2K : ∀ i' j', X2.K i' j' = if i' = i ∧ j' = 0 then K5 else X1.K i' j' := by intro i' j'; rw [← hX2]; rfl
                have hX2I : ∀ i', i' ≠ i → item X2 i' = item X1 i' := by rw [← hX2]; exact rep_item
                have hX2f : X2.f = X1.f := by rw [← hX2]; rfl
                replace hX2n : Hid _ := hX2n
                replace hX2K : Hid _ := hX2K
                replace hX2I : Hid _ := hX2I
                replace hX2f : Hid _ := hX2f
                have hX2i : Hid (i < X2.n) := by show i < X2.n; rw [hX2n.out]; exact hi.out
                clear hWB hX2 hS5 hy5 hx5 E15 E25 E35 G15 G25 G35 hO5 g5 hv5
                obtain ⟨A0WB, A2WB, A5WB⟩ := hStWB.nd
                obtain ⟨C0WB, C1WB, C2WB, C3WB, C4WB⟩ := hStWB.ct
                obtain ⟨B0WB, B1WB, B2WB, B3WB, F1WB, F2WB, F3WB⟩ := hxWB.cells
                have hB4WB := hStWB.k0.le
                replace hStWB : Hid _ := hStWB
                replace hxWB : Hid _ := hxWB
                by_cases hms : d.ms = 2
                · have hm2 : (((d.ms : Nat) : Int) == 2) = true := by rw [hms]; rfl
                  replace hms : Hid _ := hms
                  have hB4' := hB4
                  have hB4 := hB4WB
                  go_upto_region 24 with (first | (at_builtin; refine wpList_appC w.heap.size _ rfl _ _ rfl (X2.K i 2) (N, va, cc) (X2.v i 2) ?_ ((hStWB.out.G.row i hX2i.out 2 (by omega)).keep ((Keep.refl WB).alloc _)) (Nat.le_trans hB4 ((Keep.refl WB).alloc _).le) ⟨WB.heap.size, 0, none⟩ 1 ?_ (newsC _ _ rfl N va cc) (by rw [hX2K.out]; rw [if_neg (by omega)]; exact hlen.out 2 (by omega)) ?_; rotate_left 2; intro v7 w7 hO7 g7 hv7; obtain ⟨hx7, hS7, hy7⟩ := (hStWB.out.keep ((Keep.refl WB).alloc (Obj.cells #[Value.float .f64 N.th, .slice va N.cs.length cc, .int .i64 N.tr, .int .i64 N.fr, .int .i64 N.to] 57))).rep (j := 2) hX2i.out (by omega) (hxWB.out.keep ((Keep.refl WB).alloc (Obj.cells #[Value.float .f64 N.th, .slice va N.cs.length cc, .int .i64 N.tr, .int .i64 N.fr, .int .i64 N.to] 57))) hO7 (fun r hr => (List.mem_append.1 hr).imp id (fun q => List.mem_singleton.1 q)) g7 (hv7.imp id fun e => ⟨_, e, Nat.le_refl _⟩); obtain ⟨-, E17, E27, E37, G17, G27, G37⟩ := hx7.cells; obtain ⟨s7, t7, e7, -, -⟩ := hO7.shape; generalize (X2.K i 2 ++ [(N, va, cc)]).length = l7 at e7; subst e7; replace hS7 : Hid _ := hS7; replace hy7 : Hid _ := hy7; replace hx7 : Hid _ := hx7; replace hO7 : Hid _ := hO7; replace g7 : Hid _ := g7; replace hv7 : Hid _ := hv7))
                  rotate_left 1
                  · rfl
                  · rfl
                  obtain ⟨WC, hWC⟩ : ∃ WC, w7.setCell ⟨xb, 3, none⟩ (.slice s7 l7 t7) = WC := ⟨_, rfl⟩
                  have hStWC := hS7.out
                  have hxWC := hy7.out
                  rw [hWC] at hStWC hxWC
                  rw [hWC]
                  obtain ⟨X3, hX3⟩ : ∃ X3, X2.rep i 2 (.slice s7 l7 t7) (X2.K i 2 ++ [(N, va, cc)]) = X3 := ⟨_, rfl⟩
                  rw [hX3] at hStWC hxWC
                  have hX3n : X3.n = X2.n := by rw [← hX3]; rfl
                  have hX3K : ∀ i' j', X3.K i' j' = if i' = i ∧ j' = 2 then (X2.K i 2 ++ [(N, va, cc)]) else X2.K i' j' := by intro i' j'; rw [← hX3]; rfl
                  have hX3I : ∀ i', i' ≠ i → item X3 i' = item X2 i' := by rw [← hX3]; exact rep_item
                  have hX3f : X3.f = X2.f := by rw [← hX3]; rfl
                  replace hX3n : Hid _ := hX3n
                  replace hX3K : Hid _ := hX3K
                  replace hX3I : Hid _ := hX3I
                  replace hX3f : Hid _ := hX3f
                  have hX3i : Hid (i < X3.n) := by show i < X3.n; rw [hX3n.out]; exact hX2i.out
                  clear hWC hX3 hS7 hy7 hx7 E17 E27 E37 G17 G27 G37 hO7 g7 hv7
                  obtain ⟨A0WC, A2WC, A5WC⟩ := hStWC.nd
                  obtain ⟨C0WC, C1WC, C2WC, C3WC, C4WC⟩ := hStWC.ct
                  obtain ⟨B0WC, B1WC, B2WC, B3WC, F1WC, F2WC, F3WC⟩ := hxWC.cells
                  have hB4WC := hStWC.k0.le
                  replace hStWC : Hid _ := hStWC
                  replace hxWC : Hid _ := hxWC
                  have hlk3 := hStWC.out.G.look hwf (i + 1) (.inr ⟨i, hX3i.out, by rw [hX3f.out, hX2f.out]; exact hf.out, rfl⟩)
                  obtain ⟨z0, d0, z1, d1, z2, d2, Y0, Y1, Y2, hit3⟩ := item_shape (hStWC.out.G.row i hX3i.out 0 (by omega)) (hStWC.out.G.row i hX3i.out 1 (by omega)) (hStWC.out.G.row i hX3i.out 2 (by omega))
                  have hfin := hStWC.out.back (i := i) (item X3 i) (by rw [its_len]; exact hi.out)
                  have at3 := hStWC.out.out.at (j := i) (by rw [its_len]; exact hi.out)
                  rw [its_at X1 hi.out, hit.out] at at3
                  obtain ⟨o0, o1, o2, o3, r0, r1, r2, r3⟩ := at3
                  rw [Y0] at B1WC
                  rw [Y1] at B2WC
                  rw [Y2] at B3WC
                  have hff : X3.f i = d.ft := by rw [hX3f.out, hX2f.out]; exact hf.out
                  rw [hff] at B0WC
                  rw [hff] at hit3
                  rw [hit3] at hfin
                  replace hit3 : Hid _ := hit3
                  replace hlk3 : Hid _ := hlk3
                  replace hfin : Hid _ := hfin
                  clear Y0 Y1 Y2 hff
                  go_wp2_with (first | (at_lookup; refine wpList_lookI rfl _ _ rfl w1.heap.size d.ft rfl rfl _ hlk3.out ?_) | go_in)
                  have hf3 := hfin.out
                  rw [← hit3.out] at hf3
                  rw [its_set (hX3n.out.trans hX2n.out) hi.out (fun i' _ h => (hX3I.out i' h).trans (hX2I.out i' h))] at hf3
                  rw [hit3.out] at hf3
                  unfold Ls.put at hf3
                  have hb1 := hj1.out
                  have hml4 := hml2.out
                  rw [wrap_up hml4 hb1]
                  have hkq := hkd.out
                  have hmq := hms.out
                  refine ⟨⟨j + 1, X3, rfl, hb1, hf3.G, hf3.out, ?_, ?_, hf3.k0, hf3.kt⟩, left_down hb1⟩
                  · show ConM _ _ _
                    rw [HS.out, ← List.append_assoc, HN.out]
                    refine hCM.out.add hi.out hf.out (fun i' hi' e => hSt1.out.G.fi i' i hi' hi.out e) (hX3n.out.trans hX2n.out) (hX3f.out.trans hX2f.out) ?_ ?_ ?_
                    · intro i' j' hi' hj' h0
                      simp only [hX3K.out, hX2K.out]
                      rcases (by omega : j' = 1 ∨ j' = 2) with rfl | rfl <;> by_cases q : i' = i <;> simp [q, cnd, hkq, hmq] <;> first | exact hkq | exact hmq
                    · intro i' hi' hq
                      simp only [hX3K.out, hX2K.out]
                      by_cases q : i' = i <;> simp [q, cnd] at hq ⊢
                      all_goals (try exact absurd hkq hq)
                    · intro hq
                      have eK : X3.K i 0 = K5 := by simp [hX3K.out, hX2K.out]
                      rw [eK]
                      exact ⟨hsr.out, (N, va, cc), rfl, hev.out⟩
                  · show X3.n ≤ _
                    have e1 := (hX3n.out.trans hX2n.out)
                    have e2 := hXn1.out
                    have e3 := hXj.out
                    omega
                · have hm2 : (((d.ms : Nat) : Int) == 2) = false := by rw [beq_eq_false_iff_ne]; omega
                  replace hms : Hid _ := hms
                  go_upto_region 24 with fail
                  have hlk3 := hStWB.out.G.look hwf (i + 1) (.inr ⟨i, hX2i.out, by rw [hX2f.out]; exact hf.out, rfl⟩)
                  obtain ⟨z0, d0, z1, d1, z2, d2, Y0, Y1, Y2, hit3⟩ := item_shape (hStWB.out.G.row i hX2i.out 0 (by omega)) (hStWB.out.G.row i hX2i.out 1 (by omega)) (hStWB.out.G.row i hX2i.out 2 (by omega))
                  have hfin := hStWB.out.back (i := i) (item X2 i) (by rw [its_len]; exact hi.out)
                  have at3 := hStWB.out.out.at (j := i) (by rw [its_len]; exact hi.out)
                  rw [its_at X1 hi.out, hit.out] at at3
                  obtain ⟨o0, o1, o2, o3, r0, r1, r2, r3⟩ := at3
                  rw [Y0] at B1WB
                  rw [Y1] at B2WB
                  rw [Y2] at B3WB
                  have hff : X2.f i = d.ft := by rw [hX2f.out]; exact hf.out
                  rw [hff] at B0WB
                  rw [hff] at hit3
                  rw [hit3] at hfin
                  replace hit3 : Hid _ := hit3
                  replace hlk3 : Hid _ := hlk3
                  replace hfin : Hid _ := hfin
                  clear Y0 Y1 Y2 hff
                  go_wp2_with (first | (at_lookup; refine wpList_lookI rfl _ _ rfl w1.heap.size d.ft rfl rfl _ hlk3.out ?_) | go_in)
                  have hf3 := hfin.out
                  rw [← hit3.out] at hf3
                  rw [its_set hX2n.out hi.out (fun i' _ h => hX2I.out i' h)] at hf3
                  rw [hit3.out] at hf3
                  unfold Ls.put at hf3
                  have hb1 := hj1.out
                  have hml4 := hml2.out
                  rw [wrap_up hml4 hb1]
                  have hkq := hkd.out
                  have hmq := hms.out
                  refine ⟨⟨j + 1, X2, rfl, hb1, hf3.G, hf3.out, ?_, ?_, hf3.k0, hf3.kt⟩, left_down hb1⟩
                  · show ConM _ _ _
                    rw [HS.out, ← List.append_assoc, HN.out]
                    refine hCM.out.add hi.out hf.out (fun i' hi' e => hSt1.out.G.fi i' i hi' hi.out e) hX2n.out hX2f.out ?_ ?_ ?_
                    · intro i' j' hi' hj' h0
                      simp only [hX2K.out]
                      rcases (by omega : j' = 1 ∨ j' = 2) with rfl | rfl <;> by_cases q : i' = i <;> simp [q, cnd, hkq, hmq] <;> first | exact hkq | exact hmq
                    · intro i' hi' hq
                      simp only [hX2K.out]
                      by_cases q : i' = i <;> simp [q, cnd] at hq ⊢
                      all_goals (try exact absurd hkq hq)
                    · intro hq
                      have eK : X2.K i 0 = K5 := by simp [hX2K.out]
                      rw [eK]
                      exact ⟨hsr.out, (N, va, cc), rfl, hev.out⟩
                  · show X2.n ≤ _
                    have e1 := hX2n.out
                    have e2 := hXn1.out
                    have e3 := hXj.out
                    omega
              · have hk3 : d.kd = 3 := by have := HK.out; omega
                have hk3' : (((d.kd : Nat) : Int) == 3) = true := by rw [hk3]; rfl
                replace hk3 : Hid _ := hk3
                replace hkd : Hid _ := hkd
                go_upto_region 22 with (first | (at_builtin; refine wpList_appC w.heap.size _ rfl _ _ rfl (X1.K i 1) (N, va, cc) (X1.v i 1) ?_ ((hStA.out.G.row i hi.out 1 (by omega)).keep ((Keep.refl WA).alloc _)) (Nat.le_trans hB4 ((Keep.refl WA).alloc _).le) ⟨WA.heap.size, 0, none⟩ 1 ?_ (newsC _ _ rfl N va cc) (hlen.out 1 (by omega)) ?_; rotate_left 2; intro v5 w5 hO5 g5 hv5; obtain ⟨hx5, hS5, hy5⟩ := (hStA.out.keep ((Keep.refl WA).alloc (Obj.cells #[Value.float .f64 N.th, .slice va N.cs.length cc, .int .i64 N.tr, .int .i64 N.fr, .int .i64 N.to] 57))).rep (j := 1) hi.out (by omega) (hxA.out.keep ((Keep.refl WA).alloc (Obj.cells #[Value.float .f64 N.th, .slice va N.cs.length cc, .int .i64 N.tr, .int .i64 N.fr, .int .i64 N.to] 57))) hO5 (fun r hr => (List.mem_append.1 hr).imp id (fun q => List.mem_singleton.1 q)) g5 (hv5.imp id fun e => ⟨_, e, Nat.le_refl _⟩); obtain ⟨-, E15, E25, E35, G15, G25, G35⟩ := hx5.cells; obtain ⟨s5, t5, e5, -, -⟩ := hO5.shape; generalize (X1.K i 1 ++ [(N, va, cc)]).length = l5 at e5; subst e5; replace hS5 : Hid _ := hS5; replace hy5 : Hid _ := hy5; replace hx5 : Hid _ := hx5; replace hO5 : Hid _ := hO5; replace g5 : Hid _ := g5; replace hv5 : Hid _ := hv5))
                rotate_left 1
                · rfl
                · rfl
                obtain ⟨WB, hWB⟩ : ∃ WB, w5.setCell ⟨xb, 2, none⟩ (.slice s5 l5 t5) = WB := ⟨_, rfl⟩
                have hStWB := hS5.out
                have hxWB := hy5.out
                rw [hWB] at hStWB hxWB
                rw [hWB]
                obtain ⟨X2, hX2⟩ : ∃ X2, X1.rep i 1 (.slice s5 l5 t5) (X1.K i 1 ++ [(N, va, cc)]) = X2 := ⟨_, rfl⟩
                rw [hX2] at hStWB hxWB
                have hX2n : X2.n = X1.n := by rw [← hX2]; rfl
                have hX2K : ∀ i' j', X2.K i' j' = if i' = i ∧ j' = 1 then (X1.K i 1 ++ [(N, va, cc)]) else X1.K i' j' := by intro i' j'; rw [← hX2]; rfl
                have hX2I : ∀ i', i' ≠ i → item X2 i' = item X1 i' := by rw [← hX2]; exact rep_item
                have hX2f : X2.f = X1.f := by rw [← hX2]; rfl
                replace hX2n : Hid _ := hX2n
                replace hX2K : Hid _ := hX2K
                replace hX2I : Hid _ := hX2I
                replace hX2f : Hid _ := hX2f
                have hX2i : Hid (i < X2.n) := by show i < X2.n; rw [hX2n.out]; exact hi.out
                clear hWB hX2 hS5 hy5 hx5 E15 E25 E35 G15 G25 G35 hO5 g5 hv5
                obtain ⟨A0WB, A2WB, A5WB⟩ := hStWB.nd
                obtain ⟨C0WB, C1WB, C2WB, C3WB, C4WB⟩ := hStWB.ct
                obtain ⟨B0WB, B1WB, B2WB, B3WB, F1WB, F2WB, F3WB⟩ := hxWB.cells
                have hB4WB := hStWB.k0.le
                replace hStWB : Hid _ := hStWB
                replace hxWB : Hid _ := hxWB
                by_cases hms : d.ms = 2
                · have hm2 : (((d.ms : Nat) : Int) == 2) = true := by rw [hms]; rfl
                  replace hms : Hid _ := hms
                  have hB4' := hB4
                  have hB4 := hB4WB
                  go_upto_region 24 with (first | (at_builtin; refine wpList_appC w.heap.size _ rfl _ _ rfl (X2.K i 2) (N, va, cc) (X2.v i 2) ?_ ((hStWB.out.G.row i hX2i.out 2 (by omega)).keep ((Keep.refl WB).alloc _)) (Nat.le_trans hB4 ((Keep.refl WB).alloc _).le) ⟨WB.heap.size, 0, none⟩ 1 ?_ (newsC _ _ rfl N va cc) (by rw [hX2K.out]; rw [if_neg (by omega)]; exact hlen.out 2 (by omega)) ?_; rotate_left 2; intro v7 w7 hO7 g7 hv7; obtain ⟨hx7, hS7, hy7⟩ := (hStWB.out.keep ((Keep.refl WB).alloc (Obj.cells #[Value.float .f64 N.th, .slice va N.cs.length cc, .int .i64 N.tr, .int .i64 N.fr, .int .i64 N.to] 57))).rep (j := 2) hX2i.out (by omega) (hxWB.out.keep ((Keep.refl WB).alloc (Obj.cells #[Value.float .f64 N.th, .slice va N.cs.length cc, .int .i64 N.tr, .int .i64 N.fr, .int .i64 N.to] 57))) hO7 (fun r hr => (List.mem_append.1 hr).imp id (fun q => List.mem_singleton.1 q)) g7 (hv7.imp id fun e => ⟨_, e, Nat.le_refl _⟩); obtain ⟨-, E17, E27, E37, G17, G27, G37⟩ := hx7.cells; obtain ⟨s7, t7, e7, -, -⟩ := hO7.shape; generalize (X2.K i 2 ++ [(N, va, cc)]).length = l7 at e7; subst e7; replace hS7 : Hid _ := hS7; replace hy7 : Hid _ := hy7; replace hx7 : Hid _ := hx7; replace hO7 : Hid _ := hO7; replace g7 : Hid _ := g7; replace hv7 : Hid _ := hv7))
                  rotate_left 1
                  · rfl
                  · rfl
                  obtain ⟨WC, hWC⟩ : ∃ WC, w7.setCell ⟨xb, 3, none⟩ (.slice s7 l7 t7) = WC := ⟨_, rfl⟩
                  have hStWC := hS7.out
                  have hxWC := hy7.out
                  rw [hWC] at hStWC hxWC
                  rw [hWC]
                  obtain ⟨X3, hX3⟩ : ∃ X3, X2.rep i 2 (.slice s7 l7 t7) (X2.K i 2 ++ [(N, va, cc)]) = X3 := ⟨_, rfl⟩
                  rw [hX3] at hStWC hxWC
                  have hX3n : X3.n = X2.n := by rw [← hX3]; rfl
                  have hX3K : ∀ i' j', X3.K i' j' = if i' = i ∧ j' = 2 then (X2.K i 2 ++ [(N, va, cc)]) else X2.K i' j' := by intro i' j'; rw [← hX3]; rfl
                  have hX3I : ∀ i', i' ≠ i → item X3 i' = item X2 i' := by rw [← hX3]; exact rep_item
                  have hX3f : X3.f = X2.f := by rw [← hX3]; rfl
                  replace hX3n : Hid _ := hX3n
                  replace hX3K : Hid _ := hX3K
                  replace hX3I : Hid _ := hX3I
                  replace hX3f : Hid _ := hX3f
                  have hX3i : Hid (i < X3.n) := by show i < X3.n; rw [hX3n.out]; exact hX2i.out
                  clear hWC hX3 hS7 hy7 hx7 E17 E27 E37 G17 G27 G37 hO7 g7 hv7
                  obtain ⟨A0WC, A2WC, A5WC⟩ := hStWC.nd
                  obtain ⟨C0WC, C1WC, C2WC, C3WC, C4WC⟩ := hStWC.ct
                  obtain ⟨B0WC, B1WC, B2WC, B3WC, F1WC, F2WC, F3WC⟩ := hxWC.cells
                  have hB4WC := hStWC.k0.le
                  replace hStWC : Hid _ := hStWC
                  replace hxWC : Hid _ := hxWC
                  have hlk3 := hStWC.out.G.look hwf (i + 1) (.inr ⟨i, hX3i.out, by rw [hX3f.out, hX2f.out]; exact hf.out, rfl⟩)
                  obtain ⟨z0, d0, z1, d1, z2, d2, Y0, Y1, Y2, hit3⟩ := item_shape (hStWC.out.G.row i hX3i.out 0 (by omega)) (hStWC.out.G.row i hX3i.out 1 (by omega)) (hStWC.out.G.row i hX3i.out 2 (by omega))
                  have hfin := hStWC.out.back (i := i) (item X3 i) (by rw [its_len]; exact hi.out)
                  have at3 := hStWC.out.out.at (j := i) (by rw [its_len]; exact hi.out)
                  rw [its_at X1 hi.out, hit.out] at at3
                  obtain ⟨o0, o1, o2, o3, r0, r1, r2, r3⟩ := at3
                  rw [Y0] at B1WC
                  rw [Y1] at B2WC
                  rw [Y2] at B3WC
                  have hff : X3.f i = d.ft := by rw [hX3f.out, hX2f.out]; exact hf.out
                  rw [hff] at B0WC
                  rw [hff] at hit3
                  rw [hit3] at hfin
                  replace hit3 : Hid _ := hit3
                  replace hlk3 : Hid _ := hlk3
                  replace hfin : Hid _ := hfin
                  clear Y0 Y1 Y2 hff
                  go_wp2_with (first | (at_lookup; refine wpList_lookI rfl _ _ rfl w1.heap.size d.ft rfl rfl _ hlk3.out ?_) | go_in)
                  have hf3 := hfin.out
                  rw [← hit3.out] at hf3
                  rw [its_set (hX3n.out.trans hX2n.out) hi.out (fun i' _ h => (hX3I.out i' h).trans (hX2I.out i' h))] at hf3
                  rw [hit3.out] at hf3
                  unfold Ls.put at hf3
                  have hb1 := hj1.out
                  have hml4 := hml2.out
                  rw [wrap_up hml4 hb1]
                  have hkq := hkd.out
                  have hmq := hms.out
                  refine ⟨⟨j + 1, X3, rfl, hb1, hf3.G, hf3.out, ?_, ?_, hf3.k0, hf3.kt⟩, left_down hb1⟩
                  · show ConM _ _ _
                    rw [HS.out, ← List.append_assoc, HN.out]
                    refine hCM.out.add hi.out hf.out (fun i' hi' e => hSt1.out.G.fi i' i hi' hi.out e) (hX3n.out.trans hX2n.out) (hX3f.out.trans hX2f.out) ?_ ?_ ?_
                    · intro i' j' hi' hj' h0
                      simp only [hX3K.out, hX2K.out]
                      rcases (by omega : j' = 1 ∨ j' = 2) with rfl | rfl <;> by_cases q : i' = i <;> simp [q, cnd, hkq, hmq] <;> first | exact hkq | exact hmq
                    · intro i' hi' hq
                      simp only [hX3K.out, hX2K.out]
                      by_cases q : i' = i <;> simp [q, cnd] at hq ⊢
                      all_goals (try exact absurd hkq hq)
                    · intro hq
                      have hq2 : d.kd = 2 := by simpa [cnd] using hq
                      exact absurd hq2 hkq
                  · show X3.n ≤ _
                    have e1 := (hX3n.out.trans hX2n.out)
                    have e2 := hXn1.out
                    have e3 := hXj.out
                    omega
                · have hm2 : (((d.ms : Nat) : Int) == 2) = false := by rw [beq_eq_false_iff_ne]; omega
                  replace hms : Hid _ := hms
                  go_upto_region 24 with fail
                  have hlk3 := hStWB.out.G.look hwf (i + 1) (.inr ⟨i, hX2i.out, by rw [hX2f.out]; exact hf.out, rfl⟩)
                  obtain ⟨z0, d0, z1, d1, z2, d2, Y0, Y1, Y2, hit3⟩ := item_shape (hStWB.out.G.row i hX2i.out 0 (by omega)) (hStWB.out.G.row i hX2i.out 1 (by omega)) (hStWB.out.G.row i hX2i.out 2 (by omega))
                  have hfin := hStWB.out.back (i := i) (item X2 i) (by rw [its_len]; exact hi.out)
                  have at3 := hStWB.out.out.at (j := i) (by rw [its_len]; exact hi.out)
                  rw [its_at X1 hi.out, hit.out] at at3
                  obtain ⟨o0, o1, o2, o3, r0, r1, r2, r3⟩ := at3
                  rw [Y0] at B1WB
                  rw [Y1] at B2WB
                  rw [Y2] at B3WB
                  have hff : X2.f i = d.ft := by rw [hX2f.out]; exact hf.out
                  rw [hff] at B0WB
                  rw [hff] at hit3
                  rw [hit3] at hfin
                  replace hit3 : Hid _ := hit3
                  replace hlk3 : Hid _ := hlk3
                  replace hfin : Hid _ := hfin
                  clear Y0 Y1 Y2 hff
                  go_wp2_with (first | (at_lookup; refine wpList_lookI rfl _ _ rfl w1.heap.size d.ft rfl rfl _ hlk3.out ?_) | go_in)
                  have hf3 := hfin.out
                  rw [← hit3.out] at hf3
                  rw [its_set hX2n.out hi.out (fun i' _ h => hX2I.out i' h)] at hf3
                  rw [hit3.out] at hf3
                  unfold Ls.put at hf3
                  have hb1 := hj1.out
                  have hml4 := hml2.out
                  rw [wrap_up hml4 hb1]
                  have hkq := hkd.out
                  have hmq := hms.out
                  refine ⟨⟨j + 1, X2, rfl, hb1, hf3.G, hf3.out, ?_, ?_, hf3.k0, hf3.kt⟩, left_down hb1⟩
                  · show ConM _ _ _
                    rw [HS.out, ← List.append_assoc, HN.out]
                    refine hCM.out.add hi.out hf.out (fun i' hi' e => hSt1.out.G.fi i' i hi' hi.out e) hX2n.out hX2f.out ?_ ?_ ?_
                    · intro i' j' hi' hj' h0
                      simp only [hX2K.out]
                      rcases (by omega : j' = 1 ∨ j' = 2) with rfl | rfl <;> by_cases q : i' = i <;> simp [q, cnd, hkq, hmq] <;> first | exact hkq | exact hmq
                    · intro i' hi' hq
                      simp only [hX2K.out]
                      by_cases q : i' = i <;> simp [q, cnd] at hq ⊢
                      all_goals (try exact absurd hkq hq)
                    · intro hq
                      have hq2 : d.kd = 2 := by simpa [cnd] using hq
                      exact absurd hq2 hkq
                  · show X2.n ≤ _
                    have e1 := hX2n.out
                    have e2 := hXn1.out
                    have e3 := hXj.out
                    omega
          · have hjc : ¬ (j : Int) < (n2 : Int) := by omega
            obtain rfl : j = n2 := by omega
            have hgt : (gat L (k : Int)).take j = gat L (k : Int) := by
              have : (gat L (k : Int)).length = j := by unfold gat; rw [List.length_map]; exact hn2.out
              rw [← this, List.take_length]
            rw [hgt] at hCj
            replace hgt : Hid _ := hgt
            go_wp2_with fail
            have hb1 := hk1.out
            have hn64 := hn6.out
            rw [wrap_up2 hn64 hb1]
            have HS : Hid (gall (ts.take (k + 1)) = gall (ts.take k) ++ gat L (k : Int)) := by show _ = _; rw [HT.out, gall_snoc, HL.out]
            refine ⟨⟨k + 1, Xj, rfl, hb1, hG, hO, ?_, ?_, ?_, ?_, kw⟩, left_down hb1⟩
            · show ConM _ _ _
              rw [HS.out]; exact hCj.out
            · show _ ≤ _
              rw [HS.out, List.length_append]
              have := hXj.out
              have : (gat L (k : Int)).length = j := by unfold gat; rw [List.length_map]; exact hn2.out
              omega
            · show _ ≤ _
              rw [HS.out, List.length_append, Nat.succ_mul]
              exact Nat.add_le_add hgl.out (gat_len hE2.out (k : Int))
            · intro s hs
              rw [HS.out] at hs
              rcases List.mem_append.1 hs with hs | hs
              · exact hok.out s hs
              · exact ⟨hth.out s hs, hnan.out s hs⟩
      · have hkc : ¬ (k : Int) < (n : Int) := by omega
        obtain rfl : k = n := by omega
        have htk : ts.take k = ts := by rw [← hn, List.take_length]
        rw [htk] at hC hX hgl
        obtain ⟨n1, hn1⟩ : ∃ n1, X.n = n1 := ⟨_, rfl⟩
        have hn1b : Hid (n1 ≤ 268435456) := by have := hX.out; have := hgl.out; have := hn6.out; show _ ≤ _; omega
        obtain ⟨a8, c8, e8⟩ := hO.slice
        rw [its_len, hn1] at e8
        subst e8
        have hGB : Hid (HJ w.heap.size wr w1.heap.size X) := hG
        have hOB : Hid (OwnL w.heap.size wr (.slice a8 n1 c8) (its X)) := hO
        have hkB : Hid (Keep w wr) := kw
        replace hn1 : Hid _ := hn1
        have hR0 : Hid (∀ A : List Nat, A.Perm (List.range X.n) → A.length = n1) := by intro A h; rw [h.length_eq, List.length_range, hn1.out]
        have hRd : Hid (∀ A : List Nat, A.Perm (List.range X.n) → ∀ a ∈ A, ∀ b ∈ A, X.f a = X.f b → a = b) := by
          intro A h a ha b hb e
          have ha' := List.mem_range.1 (h.mem_iff.1 ha)
          have hb' := List.mem_range.1 (h.mem_iff.1 hb)
          exact hGB.out.fi a b ha' hb' e
        clear hG hO kw htk
        go_wp2_with fail
        go_loopw [16] (fun iv wx => ∃ (i : Nat) (A : List Nat), iv = .int .i64 (i : Int) ∧ i ≤ n1 ∧ OwnL w.heap.size wx (.slice a8 n1 c8) (A.map (item X)) ∧ Hid (A.Perm (List.range X.n)) ∧ Hid ((A.take i).Pairwise fun a b => X.f a < X.f b) ∧ HJ w.heap.size wx w1.heap.size X ∧ Keep w wx) (fun iv _ => n1 - (intOf iv).toNat)
        case atStart => exact ⟨0, List.range X.n, rfl, by omega, hOB.out, List.Perm.refl _, List.Pairwise.nil, hGB.out, hkB.out⟩
        case round =>
          obtain ⟨i, A, rfl, hi, hO, hPe, hSo, hG, kw⟩ := hrel
          by_cases hil : i < n1
          · have hic : (i : Int) < (n1 : Int) := by omega
            have hi1 : Hid (i + 1 ≤ n1) := hil
            have hAl := hR0.out A hPe.out
            obtain ⟨g, cap', e8, hgB, -⟩ := hO.shape (by rw [List.length_map, hAl]; omega)
            simp only [Value.slice.injEq] at e8
            obtain ⟨rfl, -, rfl⟩ := e8
            obtain ⟨x, R, hA⟩ : ∃ x R, A = A.take i ++ x :: R := by
              refine ⟨A[i]'(by omega), A.drop (i + 1), ?_⟩
              rw [← List.drop_eq_getElem_cons (by omega), List.take_append_drop]
            obtain ⟨B, hB⟩ : ∃ B, A.take i = B := ⟨_, rfl⟩
            have hBl : Hid (B.length = i) := by show _ = _; rw [← hB, List.length_take]; omega
            rw [hB] at hA hSo
            have hG' : Hid (HJ w.heap.size wr w1.heap.size X) := hG
            have hO' : Hid (OwnL w.heap.size wr (.slice (some ⟨g, 0, none⟩) n1 c8) ((B ++ x :: ([] ++ R)).map (item X))) := by show OwnL _ _ _ _; rw [List.nil_append, ← hA]; exact hO
            have hk' : Hid (Keep w wr) := kw
            have hPe' : Hid ((B ++ x :: R).Perm (List.range X.n)) := by show List.Perm _ _; rw [← hA]; exact hPe.out
            have hil2 : Hid (B.length + R.length + 1 = n1) := by
              have := hR0.out _ hPe'.out
              rw [List.length_append, List.length_cons] at this
              show _ = _
              omega
            clear hO hG kw hA hB hPe hAl
            go_wp2_with fail
            go_loopw [17] (fun iv wx => ∃ (P Q : List Nat), iv = .int .i64 (P.length : Int) ∧ OwnL w.heap.size wx (.slice (some ⟨g, 0, none⟩) n1 c8) ((P ++ x :: (Q ++ R)).map (item X)) ∧ Hid (B = P ++ Q) ∧ Hid (∀ q ∈ Q, X.f x < X.f q) ∧ HJ w.heap.size wx w1.heap.size X ∧ Keep w wx) (fun iv _ => (intOf iv).toNat)
            case atStart => exact ⟨B, [], by rw [hBl.out], hO'.out, (List.append_nil B).symm, fun q hq => (by cases hq), hG'.out, hk'.out⟩
            case round =>
              obtain ⟨P, Q, rfl, hO, hK, hQ, hG, kw⟩ := hrel
              have hFin : Hid ((∀ p ∈ P, X.f p < X.f x) → (P ++ x :: Q).Pairwise fun a b => X.f a < X.f b) := by
                intro hP
                have hsK : (P ++ Q).Pairwise fun a b => X.f a < X.f b := by rw [← hK.out]; exact hSo.out
                obtain ⟨q1, q2, q3⟩ := List.pairwise_append.1 hsK
                refine List.pairwise_append.2 ⟨q1, List.pairwise_cons.2 ⟨fun q hq => hQ.out q hq, q2⟩, fun a ha b hb => ?_⟩
                rcases List.mem_cons.1 hb with rfl | hb
                · exact hP a ha
                · exact q3 a ha b hb
              have hDone : Hid ((P ++ x :: Q).Pairwise (fun a b => X.f a < X.f b) → ((P ++ x :: (Q ++ R)).Perm (List.range X.n)) ∧ (((P ++ x :: (Q ++ R)).take (i + 1)).Pairwise fun a b => X.f a < X.f b)) := by
                intro hP
                have hl : (P ++ x :: Q).length = i + 1 := by
                  have h1 := hBl.out
                  rw [hK.out, List.length_append] at h1
                  rw [List.length_append, List.length_cons]
                  omega
                refine ⟨?_, ?_⟩
                · refine List.Perm.trans ?_ hPe'.out
                  rw [hK.out, List.append_assoc]
                  refine List.Perm.append_left P ?_
                  rw [show x :: (Q ++ R) = (x :: Q) ++ R from rfl]
                  exact List.perm_middle.symm
                · rw [show P ++ x :: (Q ++ R) = (P ++ x :: Q) ++ R by simp, ← hl, List.take_left]
                  exact hP
              by_cases hP0 : P = []
              · subst hP0
                have HF := hDone.out (hFin.out (fun p hp => by cases hp))
                replace HF : Hid _ := HF
                replace hO : Hid _ := hO
                replace hG : Hid _ := hG
                replace kw : Hid _ := kw
                go_wp2_with fail
                go_quiet (fail)
                go_wp2_with fail
                have kd : Keep wr (wr.drewN nq) := (Keep.refl wr).drewN nq
                have hb1 := hi1.out
                have hn64 := hn1b.out
                rw [wrap_up3 hn64 hb1]
                exact ⟨⟨i + 1, _, rfl, hb1, OwnL.keep hO.out kd, HF.out.1, HF.out.2, hG.out.keep kd, Keep.trans kw.out kd⟩, left_down hb1⟩
              · obtain ⟨P', p, rfl⟩ : ∃ P' p, P = P' ++ [p] := ⟨P.dropLast, P.getLast hP0, (List.dropLast_concat_getLast hP0).symm⟩
                obtain ⟨m, hm⟩ : ∃ m, P'.length = m := ⟨_, rfl⟩
                obtain ⟨mm, hmm⟩ : ∃ mm, m + 1 = mm := ⟨_, rfl⟩
                have hml : Hid (m + 1 + Q.length = i) := by
                  have h1 := hBl.out
                  rw [hK.out] at h1
                  simp [hm] at h1
                  show _ = _
                  omega
                have hlen : ((P' ++ [p] ++ x :: (Q ++ R)).map (item X)).length = mm + 1 + (Q ++ R).length := by simp [hm]; omega
                have a1 := hO.at (j := mm) (by omega)
                have a0 := hO.at (j := m) (by omega)
                rw [show ((P' ++ [p] ++ x :: (Q ++ R)).map (item X)).getD mm Ls.d0 = item X x by rw [← hmm, ← hm]; simp [List.getD]] at a1
                rw [show ((P' ++ [p] ++ x :: (Q ++ R)).map (item X)).getD m Ls.d0 = item X p by rw [← hm]; simp [List.getD]] at a0
                have i1 : (mm : Int) < (n1 : Int) := by have := hml.out; omega
                have i0 : ((m : Int)) < (n1 : Int) := by omega
                have i2 : (0 : Int) < (mm : Int) := by omega
                have i2n : 0 < mm := by omega
                have i1n : mm < n1 := by omega
                have i0n : m < n1 := by omega
                have i2b : decide ((0 : Int) < (mm : Int)) = true := decide_eq_true i2
                have wm : wrap64 ((mm : Int) - 1) = (m : Int) := by rw [show (mm : Int) - 1 = (m : Int) by omega]; have := hn1b.out; unfold wrap64; omega
                have wm1 : IntKind.i64.wrap ((mm : Int) - 1) = (m : Int) := by rw [IntWalk.i64_left]; exact wm
                have hlp : (((P' ++ [p]).length : Nat) : Int) = (mm : Int) := by simp [hm]; omega
                rw [hlp]
                have hmmE : Hid (m + 1 = mm) := hmm
                have hlenE : Hid (((P' ++ [p] ++ x :: (Q ++ R)).map (item X)).length = mm + 1 + (Q ++ R).length) := hlen
                clear hmm hlp hlen
                have a10 := a1.c0
                have a00 := a0.c0
                by_cases hc : (item X x).ft < (item X p).ft
                · replace hO : Hid _ := hO
                  replace hG : Hid _ := hG
                  replace kw : Hid _ := kw
                  go_wp2_with fail
                  go_quiet (fail)
                  have kd : Keep wr (wr.drewN nq) := (Keep.refl wr).drewN nq
                  generalize wr.drewN nq = W at *
                  have hOW : OwnL w.heap.size W _ _ := OwnL.keep hO.out kd
                  obtain ⟨hgB', c9, hg9⟩ := hOW.block (b := g) rfl
                  have hgW := (Array.getElem?_eq_some_iff.1 hg9).1
                  obtain ⟨WA, hWA⟩ : ∃ WA, W.alloc (Obj.cells #[Value.int .i64 (item X x).ft, .slice (item X x).na (item X x).nl (item X x).nc, .slice (item X x).ca (item X x).cl (item X x).cc, .slice (item X x).la (item X x).ll (item X x).lc] 33) = WA := ⟨_, rfl⟩
                  have kA : Keep W WA := by rw [← hWA]; exact (Keep.refl W).alloc _
                  have rA : WA.heap[W.heap.size]? = some (Obj.cells #[Value.int .i64 (item X x).ft, .slice (item X x).na (item X x).nl (item X x).nc, .slice (item X x).ca (item X x).cl (item X x).cc, .slice (item X x).la (item X x).ll (item X x).lc] 33 (0, 0)) := by rw [← hWA]; exact heap_alloc_new W _
                  have hOA := hOW.keep kA
                  have hmm := hmmE.out
                  have hlen := hlenE.out
                  have hOB := hOA.put mm (item X p) (by omega)
                  have q1 := hOW.at (j := mm) (by omega)
                  have s1' := hOA.at (j := mm) (by omega)
                  have s0' := hOA.at (j := m) (by omega)
                  have u0' := hOB.at (j := m) (by rw [List.length_set]; omega)
                  rw [show ((P' ++ [p] ++ x :: (Q ++ R)).map (item X)).getD mm Ls.d0 = item X x by rw [← hmm, ← hm]; simp [List.getD]] at q1
                  rw [show ((P' ++ [p] ++ x :: (Q ++ R)).map (item X)).getD m Ls.d0 = item X p by rw [← hm]; simp [List.getD]] at s0'
                  have rB : (Ls.put WA g mm (item X p)).heap[W.heap.size]? = some (Obj.cells #[Value.int .i64 (item X x).ft, .slice (item X x).na (item X x).nl (item X x).nc, .slice (item X x).ca (item X x).cl (item X x).cc, .slice (item X x).la (item X x).ll (item X x).lc] 33 (0, 0)) := by rw [Lput_other WA g mm (item X p) W.heap.size (by omega)]; exact rA
                  have z0 := cell_of_row _ _ 0 _ 33 (0, 0) rB
                  have z1 := cell_of_row _ _ 1 _ 33 (0, 0) rB
                  have z2 := cell_of_row _ _ 2 _ 33 (0, 0) rB
                  have z3 := cell_of_row _ _ 3 _ 33 (0, 0) rB
                  simp at z0 z1 z2 z3
                  obtain ⟨q10, q11, q12, q13, -, -, -, -⟩ := q1
                  have hfin := hOB.put m (item X x) (by rw [List.length_set]; omega)
                  replace hfin : Hid _ := hfin
                  rw [show ((P' ++ [p] ++ x :: (Q ++ R)).map (item X)).getD mm Ls.d0 = item X x by rw [← hmm, ← hm]; simp [List.getD]] at s1'
                  rw [show (((P' ++ [p] ++ x :: (Q ++ R)).map (item X)).set mm (item X p)).getD m Ls.d0 = item X p by rw [← hmm, ← hm]; simp [List.getD]] at u0'
                  obtain ⟨e10, e11, e12, e13, f10, f11, f12, f13⟩ := s1'
                  obtain ⟨s00, s01, s02, s03, -, -, -, -⟩ := s0'
                  obtain ⟨e00, e01, e02, e03, f00, f01, f02, f03⟩ := u0'
                  unfold Ls.put at z0 z1 z2 z3 e00 e01 e02 e03 f00 f01 f02 f03
                  rw [← hWA] at z0 z1 z2 z3 e00 e01 e02 e03 f00 f01 f02 f03 e10 e11 e12 e13 f10 f11 f12 f13 s00 s01 s02 s03
                  replace rA : Hid _ := rA
                  replace rB : Hid _ := rB
                  replace hWA : Hid _ := hWA
                  replace hOW : Hid _ := hOW
                  replace hg9 : Hid _ := hg9
                  replace hgW : Hid _ := hgW
                  replace kA : Hid _ := kA
                  replace kd : Hid _ := kd
                  have hOA' : Hid _ := hOA
                  clear a10 a00 a1 a0 hOA hOB hmm hlen
                  go_wp2_with fail
                  have hmm := hmmE.out
                  have hf := hfin.out
                  have hset : (((P' ++ [p] ++ x :: (Q ++ R)).map (item X)).set mm (item X p)).set m (item X x) = (P' ++ x :: ((p :: Q) ++ R)).map (item X) := by
                    have h1 := set_two (P'.map (item X)) (item X p) (item X x) ((Q ++ R).map (item X))
                    rw [List.length_map, hm, hmm] at h1
                    rw [show (P' ++ [p] ++ x :: (Q ++ R)).map (item X) = P'.map (item X) ++ item X p :: item X x :: (Q ++ R).map (item X) by simp, List.set_comm _ _ (by omega)]
                    rw [h1]
                    simp
                  rw [hset] at hf
                  have hO2 : OwnL w.heap.size WA (.slice (some ⟨g, 0, none⟩) n1 c8) _ := hOA'.out
                  have o2 : Ls.Oth g WA (Ls.put (Ls.put WA g mm (item X p)) g m (item X x)) := ((Ls.Oth.refl g WA).put mm (item X p)).put m (item X x)
                  have gw : WA.grownBy (Ls.put (Ls.put WA g mm (item X p)) g m (item X x)) (some g) := ⟨o2.os, o2.tape, o2.output, o2.size, fun b hb hne => o2.block b hb (fun e => hne (by rw [e]))⟩
                  have kwA : Keep w WA := Keep.trans (Keep.trans kw.out kd.out) kA.out
                  have kF : Keep w (Ls.put (Ls.put WA g mm (item X p)) g m (item X x)) := Below.grown kwA gw kwA.le (fun b hb => by cases hb; exact hgB)
                  have hGF : HJ w.heap.size (Ls.put (Ls.put WA g mm (item X p)) g m (item X x)) w1.heap.size X := by
                    have hGA := (hG.out.keep kd.out).keep kA.out
                    obtain ⟨-, c3, hc3⟩ := OwnL.block hO2 (b := g) rfl
                    refine hGA.same (fun es clock hb => ?_) (fun b cur ty hb hty => ?_)
                    · rw [o2.block _ (Array.getElem?_eq_some_iff.1 hb).1 (fun e => by rw [e, hc3] at hb; cases hb), hb]
                    · rw [o2.block _ (Array.getElem?_eq_some_iff.1 hb).1 (fun e => by rw [e, hc3] at hb; simp at hb; rcases hty with q | q <;> (have e2 := hb.2; rw [q] at e2; exact absurd e2 (by decide))), hb]
                  have hQ' : ∀ q ∈ p :: Q, X.f x < X.f q := by
                    intro q hq
                    rcases List.mem_cons.1 hq with rfl | hq
                    · exact hc
                    · exact hQ.out q hq
                  have hK' : B = P' ++ (p :: Q) := by rw [hK.out]; simp
                  unfold Ls.put at hf hGF kF
                  rw [← hWA.out] at hf hGF kF
                  refine ⟨⟨P', p :: Q, by rw [hm], hf, hK', hQ', hGF, kF⟩, ?_⟩
                  show ((m : Int)).toNat < ((mm : Int)).toNat
                  omega
                · have HF := hDone.out (hFin.out (fun a ha => by
                    have hmm := hmmE.out
                    have hsK : (P' ++ [p] ++ Q).Pairwise fun a b => X.f a < X.f b := by rw [← hK.out]; exact hSo.out
                    obtain ⟨q1, -, -⟩ := List.pairwise_append.1 hsK
                    obtain ⟨-, -, q3⟩ := List.pairwise_append.1 q1
                    have hpx : X.f p < X.f x := by
                      have h1 : ¬ X.f x < X.f p := hc
                      have hne : p ≠ x := by
                        intro e
                        have hnd := (hPe'.out.nodup_iff).2 List.nodup_range
                        rw [hK.out, e] at hnd
                        simp [List.nodup_append] at hnd
                      have h2 : X.f p ≠ X.f x := fun e => hne (hRd.out _ hPe'.out p (by rw [hK.out]; simp) x (by simp) e)
                      omega
                    rcases List.mem_append.1 ha with ha | ha
                    · exact Int.lt_trans (q3 a ha p (by simp)) hpx
                    · rw [List.mem_singleton.1 ha]; exact hpx))
                  replace HF : Hid _ := HF
                  replace hO : Hid _ := hO
                  replace hG : Hid _ := hG
                  replace kw : Hid _ := kw
                  go_wp2_with fail
                  go_quiet (fail)
                  go_wp2_with fail
                  have kd : Keep wr (wr.drewN nq) := (Keep.refl wr).drewN nq
                  have hb1 := hi1.out
                  have hn64 := hn1b.out
                  rw [wrap_up3 hn64 hb1]
                  exact ⟨⟨i + 1, _, rfl, hb1, OwnL.keep hO.out kd, HF.out.1, HF.out.2, hG.out.keep kd, Keep.trans kw.out kd⟩, left_down hb1⟩
          · have hic : ¬ (i : Int) < (n1 : Int) := by omega
            obtain rfl : i = n1 := by omega
            have hAl := hR0.out A hPe.out
            rw [← hAl, List.take_length] at hSo
            replace hAl : Hid _ := hAl
            go_wp2_with fail
            try simp only [Exit.inBlock, Exit.then]
            refine bodyPost_ret (results_tmp2 rfl _ _ _) rfl ?_
            refine ⟨_, by rw [hE.out]; rfl, kw, fun h => absurd hE.out h, fun _ => ⟨X, hC.out, A, fun i hi j hj => hG.row i hi j hj, fun i hi j hj => hG.cat i hi j hj, hO, hPe.out, hSo.out⟩⟩
  · have c1 : (ofE ts F != 0) = true := bne_iff_ne.2 hE
    replace hE : Hid _ := hE
    go_enter Try.func11, Try.ntmps11
    go_wp2_with (first | (go_at_call 35; refine hErr.mono ?_; rintro e w1 ⟨rfl, k1⟩; replace k1 : Keep w w1 := k1))
    try simp only [Exit.inBlock, Exit.then]
    refine bodyPost_ret (results_tmp2 rfl _ _ _) rfl ?_
    exact ⟨_, rfl, k1, fun _ => rfl, fun h => absurd h hE.out⟩
end Go.Proofs.Ytaogjiffnebnkaa
