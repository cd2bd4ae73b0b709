import Derived.Test.YtolfaheabdedpaaRQ
set_option linter.unusedVariables false
set_option linter.unusedSimpArgs false
namespace Go.Proofs.Ytolfaheabdedpaa
open Go.RowKit Go.Shelf
attribute [local go_sem] run_store_float
set_option maxRecDepth 100000 in
set_option maxHeartbeats 4000000 in
theorem rPack_ok (a : Option Addr) (c : Nat) (V : List (List Nat)) (d : Nat) (w : World) (hd : d ≤ 65536) (hl : V.length ≤ 5864062014804) (hr : RdS 1 w a V) (hb : badB 1 V d = false) :
    Calls Try.prog 9 #[.slice a V.length c, .int .i64 (d : Nat)] w fun e w' => ∃ a' c', e = .returned (.tuple #[.slice a' (pk V d).length c', .int .i64 0]) ∧ (pk V d).length ≤ c' ∧ RdS 8 w' a' (pk V d) ∧ Keep w w' := by
  have hall := fun j hj => badB_all hb j hj
  have hdc : (d : Int) ≤ 65536 := by omega
  have hd0 : decide ((d : Int) < 0) = false := decide_eq_false (by omega)
  go_enter Try.func9, Try.ntmps9
  go_wp2_with fail
  go_loop [6] (fun i => ∃ k : Nat, k ≤ V.length ∧ i = .int .i64 k) (fun i => V.length - (intOf i).toNat)
  case atStart => exact ⟨0, by omega, rfl⟩
  case round =>
    obtain ⟨k, hk, rfl⟩ := hrel
    by_cases hkl : k < V.length
    · have hkc : (k : Int) < (V.length : Int) := by omega
      obtain ⟨b, o, va, n, vc, rfl, c1, hn, -, -, -⟩ := hr k hkl
      obtain rfl : n = d := by have := hall k hkl; omega
      go_wp2_with fail
      go_round
      case rel => exact ⟨k + 1, by omega, by go_num⟩
      case measure => simp [intOf]; omega
    · have hkc : ¬ (k : Int) < (V.length : Int) := by omega
      go_wp2_with fail
      go_loopw [7, 8] (fun v i wr => ∃ (j : Nat) (K : List Sl), j ≤ many V.length ∧ i = .int .i64 ((8 * j : Nat) : Int) ∧ SI 8 51 35 w K ((pk V d).take j) v wr) (fun _ i _ => V.length + 8 - (intOf i).toNat)
      case atStart => exact ⟨0, [], by omega, rfl, SI.nil 8 51 35 w⟩
      case round =>
        obtain ⟨j, K, hj, rfl, hI⟩ := hrel
        by_cases hjl : 8 * j < V.length
        · have hjc : ((8 * j : Nat) : Int) < (V.length : Int) := by omega
          obtain ⟨b, o, rfl⟩ : ∃ b o, a = some ⟨b, o, none⟩ := by obtain ⟨b, o, _, _, _, e, _⟩ := hr 0 (by omega); exact ⟨b, o, e⟩
          have hjm : j < many V.length := by unfold many; omega
          have hKl : K.length + 1 ≤ 5864062014805 := by rw [hI.kl]; simp [pk_len]; unfold many; omega
          obtain ⟨w2, hw2⟩ : ∃ w2, w2 = wr := ⟨_, rfl⟩
          subst hw2
          go_wp2_with fail
          go_loopw [9, 10] (fun vg i wr => ∃ f : Nat, f ≤ d ∧ i = .int .i64 f ∧ Keep w wr ∧ RPI w w2.heap.size V d j f K u7 vg wr) (fun _ i _ => d - (intOf i).toNat)
          case atStart => exact ⟨0, by omega, rfl, hI.k0, RPI.start hI⟩
          case round =>
            obtain ⟨f, hf, rfl, kw, hP⟩ := hrel
            by_cases hfl : f < d
            · have hfc : (f : Int) < (d : Int) := by omega
              obtain ⟨wa, hwa⟩ : ∃ wa, wa = wr := ⟨_, rfl⟩
              subst hwa
              obtain ⟨X, hX⟩ : ∃ X : Nat → Nat, X = fun i => pkC V j (f * 8 + i) := ⟨_, rfl⟩
              have HX : Hid (∀ i, i < 8 → X i = pkC V j (f * 8 + i)) := fun i hi => by rw [hX]
              have hst : RowF 35 (wa.alloc (Obj.cells (UF (xsK X 0)).toArray 35)) wa.heap.size (xsK X 0) := heap_alloc_new wa _
              rw [zero8] at hst
              replace hst : Hid _ := hst
              clear hX
              go_wp2_with fail
              go_loopw [12] (fun i wr => ∃ q : Nat, q ≤ 8 ∧ i = .int .i64 q ∧ Keep wa wr ∧ RowF 35 wr wa.heap.size (xsK X q)) (fun i _ => 8 - (intOf i).toNat)
              case atStart => exact ⟨0, by omega, rfl, (Keep.refl wa).alloc _, hst.out⟩
              case round =>
                obtain ⟨q, hq, rfl, kx, rx⟩ := hrel
                by_cases hql : q < 8
                · have hqc : (q : Int) < 8 := by omega
                  have cx := rx.cell q (by rw [xsK_len]; exact hql)
                  have fz := frozen_of_row wr wa.heap.size q _ 35 rx
                  have HS : Hid (RowF 35 (wr.setCell ⟨wa.heap.size, q, none⟩ (.float .f64 (X q))) wa.heap.size (xsK X (q + 1))) := by
                    have := rx.set q (X q)
                    rw [xsK_set X q hql] at this
                    exact this
                  have hXq := HX.out q hql
                  rw [pkC_row V j f q hql] at hXq
                  by_cases hin : V.length ≤ 8 * j + q
                  · have hinc : (V.length : Int) ≤ 8 * (j : Int) + (q : Int) := by omega
                    obtain ⟨p, hp⟩ : ∃ p, V.length = p + 1 := ⟨V.length - 1, by omega⟩
                    rw [show min (8 * j + q) (V.length - 1) = p by omega] at hXq
                    obtain ⟨b1, o1, va, n, vc, e1, c1, hn, -, hrf, -⟩ := (hr.keep (kw.trans kx)) p (by omega)
                    simp only [Option.some.injEq, Addr.mk.injEq, and_true] at e1
                    obtain ⟨rfl, rfl⟩ := e1
                    have hnd := hall p (by omega)
                    obtain ⟨b3, o3, rfl, c3⟩ := hrf f (by omega)
                    rw [← hXq] at c3
                    have hfn : (f : Int) < (n : Int) := by omega
                    have hpv : (V.length : Int) - 1 = (p : Int) := by omega
                    have hpl : (p : Int) < (V.length : Int) := by omega
                    have HP : Hid (V.length = p + 1) := hp
                    clear hp hXq hn hnd
                    generalize X q = x at *
                    go_wp2_with fail
                    go_roundw
                    case rel => exact ⟨q + 1, by omega, by go_num, kx.setCell (by simp) _, HS.out⟩
                    case measure => simp [intOf]; omega
                  · have hinc : ¬ (V.length : Int) ≤ 8 * (j : Int) + (q : Int) := by omega
                    rw [show min (8 * j + q) (V.length - 1) = 8 * j + q by omega] at hXq
                    obtain ⟨b1, o1, va, n, vc, e1, c1, hn, -, hrf, -⟩ := (hr.keep (kw.trans kx)) (8 * j + q) (by omega)
                    simp only [Option.some.injEq, Addr.mk.injEq, and_true] at e1
                    obtain ⟨rfl, rfl⟩ := e1
                    have hnd := hall (8 * j + q) (by omega)
                    obtain ⟨b3, o3, rfl, c3⟩ := hrf f (by omega)
                    rw [← hXq] at c3
                    have hfn : (f : Int) < (n : Int) := by omega
                    clear hXq hn hnd
                    generalize X q = x at *
                    go_wp2_with fail
                    go_roundw
                    case rel => exact ⟨q + 1, by omega, by go_num, kx.setCell (by simp) _, HS.out⟩
                    case measure => simp [intOf]; omega
                · have hqc : ¬ (q : Int) < 8 := by omega
                  obtain rfl : q = 8 := by omega
                  have c0 : wr.cell? ⟨wa.heap.size, 0, none⟩ = some (.float .f64 (X 0)) := by rw [rx.cell 0 (by rw [xsK_len]; omega), xsK_get X 8 0 (by omega), if_pos (by omega)]
                  have c1 : wr.cell? ⟨wa.heap.size, 1, none⟩ = some (.float .f64 (X 1)) := by rw [rx.cell 1 (by rw [xsK_len]; omega), xsK_get X 8 1 (by omega), if_pos (by omega)]
                  have c2 : wr.cell? ⟨wa.heap.size, 2, none⟩ = some (.float .f64 (X 2)) := by rw [rx.cell 2 (by rw [xsK_len]; omega), xsK_get X 8 2 (by omega), if_pos (by omega)]
                  have c3 : wr.cell? ⟨wa.heap.size, 3, none⟩ = some (.float .f64 (X 3)) := by rw [rx.cell 3 (by rw [xsK_len]; omega), xsK_get X 8 3 (by omega), if_pos (by omega)]
                  have c4 : wr.cell? ⟨wa.heap.size, 4, none⟩ = some (.float .f64 (X 4)) := by rw [rx.cell 4 (by rw [xsK_len]; omega), xsK_get X 8 4 (by omega), if_pos (by omega)]
                  have c5 : wr.cell? ⟨wa.heap.size, 5, none⟩ = some (.float .f64 (X 5)) := by rw [rx.cell 5 (by rw [xsK_len]; omega), xsK_get X 8 5 (by omega), if_pos (by omega)]
                  have c6 : wr.cell? ⟨wa.heap.size, 6, none⟩ = some (.float .f64 (X 6)) := by rw [rx.cell 6 (by rw [xsK_len]; omega), xsK_get X 8 6 (by omega), if_pos (by omega)]
                  have c7 : wr.cell? ⟨wa.heap.size, 7, none⟩ = some (.float .f64 (X 7)) := by rw [rx.cell 7 (by rw [xsK_len]; omega), xsK_get X 8 7 (by omega), if_pos (by omega)]
                  have hnew : RowF 35 (wr.alloc (Obj.cells (UF (xsK X 8)).toArray 35)) wr.heap.size (xsK X 8) := heap_alloc_new wr _
                  rw [full8] at hnew
                  have HNW : Hid _ := hnew
                  have hP2 := hP.keep kx
                  have hT := tab_snoc8 f (pkC V j) X HX.out
                  have HT : Hid _ := hT
                  clear hst rx hnew hT
                  go_wp2_with (at_builtin; refine wpList_appL w2.heap.size _ rfl _ _ rfl f (tab (f * 8) (pkC V j)) (xsK X 8) (xsK_len X 8) _ rfl (own_keep hP2.own ((Keep.refl _).alloc _)) (Nat.le_trans hP2.m1 ((Keep.refl _).alloc _).le) _ _ rfl HNW.out (Nat.le_trans hfl hd) ?_; intro v7 w7 o7 g7)
                  go_roundw
                  case rel =>
                    have hP3 := (hP2.keep ((Keep.refl _).alloc _)).next (by rw [← HT.out]; exact o7) g7
                    exact ⟨f + 1, by omega, by go_num, hP3.si.k0, hP3⟩
                  case measure => simp [intOf]; omega
            · have hfc : ¬ (f : Int) < (d : Int) := by omega
              obtain rfl : f = d := by omega
              have HT : Hid ((pk V f).take (j + 1) = (pk V f).take j ++ [tab (f * 8) (pkC V j)]) := pk_take V f j hjm
              obtain ⟨a9, c9, rfl, hit⟩ := hP.own.itm (tab_len _ _).symm
              have hit2 := hit.mono hP.m0
              clear hit
              go_wp2_with (at_builtin; refine wpList_appS Try.underlying23 i51 w.heap.size _ rfl _ _ rfl K (a9, f, c9) _ rfl (own_keep hP.si.own ((Keep.refl _).alloc _)) (Nat.le_trans kw.le ((Keep.refl _).alloc _).le) _ _ rfl (newsS 51 _ (a9, f, c9)) hKl ?_; intro v7 w7 o7 g7)
              go_roundw
              case rel => exact ⟨j + 1, _, hjm, by go_num, by rw [HT.out]; exact hP.si.next (by decide) ((Keep.refl _).alloc _) (hit2.keep ((Keep.refl _).alloc _)) o7 g7⟩
              case measure => simp [intOf]; omega
        · have hjc : ¬ ((8 * j : Nat) : Int) < (V.length : Int) := by omega
          have hjm : j = many V.length := by unfold many at hj ⊢; omega
          have HT : Hid ((pk V d).take j = pk V d) := by show _ = _; rw [hjm, ← pk_len V d, List.take_length]
          rw [HT.out] at hI
          obtain ⟨a', c', rfl, hc', hr'⟩ := hI.rd (fun i hi => by rw [pk_len] at hi; rw [pk_get V d i hi, tab_len]; omega)
          have kw := hI.k0
          go_wp2_with fail
          go_ret2
          exact ⟨a', c', rfl, hc', hr', kw⟩
end Go.Proofs.Ytolfaheabdedpaa
