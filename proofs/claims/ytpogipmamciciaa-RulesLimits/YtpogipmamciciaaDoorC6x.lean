import Derived.Test.YtpogipmamciciaaDoorC5x
import Derived.Deep.RegionLaw
import Derived.Deep.CutBlock
import Derived.Deep.CutRange
import Derived.Deep.RegionHeld3
set_option linter.unusedVariables false
set_option linter.unusedSimpArgs false
namespace Go.Proofs.YtpogipmamciciaaDoor
open Go.RowKit Go.Shelf
attribute [local go_sem] run_store_float
theorem EnA.feat {w : World} {nm : ByteArray} {fa fb : Option Addr} {fs : List ByteArray} {F : Nat} {ba ta : Option Addr} {base : List Int} {ts : List (Int × List Nd)} (h : EnA w nm fa fs ba base ta ts) (hr : RdS w fb (nms F)) (hF : F ≤ 100000) : EnA w nm fb (nms F) ba base ta ts :=
  ⟨h.tb, h.ns, hr, by rw [nms_len]; omega, fun j hj => by rw [nms_len] at hj; rw [nms_at hj]; show 5 ≤ _; omega, h.er⟩
theorem OwnS.rd {B : Nat} {w : World} {a : Option Addr} {n c : Nat} {l : List ByteArray} (h : OwnS B w (.slice a n c) l) : RdS w a l := by
  obtain ⟨a2, c2, e2, -, rf2⟩ := h.shape
  simp only [Value.slice.injEq] at e2
  obtain ⟨rfl, -, rfl⟩ := e2
  exact rf2
set_option maxRecDepth 100000 in
set_option maxHeartbeats 4000000 in
theorem law_limits (w : World) (hT : Kt w) : Calls Tryd.prog 3 #[] w fun e w' => e = .returned (.bool true) ∧ Keep w w' := by
  obtain ⟨s, hs⟩ : ∃ s, w.heap.size = s := ⟨_, rfl⟩
  have hSm := fun (wx : World) => small_own wx
  go_enter Tryd.func3, Tryd.ntmps3
  go_wp2_with fail
  refine (hSm w).mono ?_
  rw [hs]
  rintro e w1 ⟨rfl, m1, z1, k1⟩
  obtain ⟨w2, hw2, k2, t2, s2⟩ := boxed w1 (ev nm1 (some ⟨s + 1, 0, none⟩) 1 1 1 (some ⟨s + 1 + 1, 0, none⟩) 1 1 (some ⟨s + 1 + 1 + 1 + 1, 0, none⟩) 1 1) 26
  replace z1 : Hid _ := z1
  obtain ⟨E, hE⟩ : ∃ E, w1.heap.size = E := ⟨_, rfl⟩
  rw [hE] at t2 s2
  replace s2 : Hid _ := s2
  obtain ⟨d, hd⟩ : ∃ d, w2.heap.size = d := ⟨_, rfl⟩
  go_wp2_with fail
  refine (hSm w2).mono ?_
  rw [hd]
  rintro e w3 ⟨rfl, m3, z3, k3⟩
  obtain ⟨w4, hw4, k4, t4, s4⟩ := boxed w3 (ev nm1 (some ⟨d + 1, 0, none⟩) 1 1 1 (some ⟨d + 1 + 1, 0, none⟩) 1 1 (some ⟨d + 1 + 1 + 1 + 1, 0, none⟩) 1 1) 26
  replace z3 : Hid _ := z3
  obtain ⟨F, hF⟩ : ∃ F, w3.heap.size = F := ⟨_, rfl⟩
  rw [hF] at t4 s4
  have E4 := (k3.trans k4).at t2
  have M4 := (m1.keep k2).keep (k3.trans k4)
  have P4 := m3.keep k4
  have k04 := k1.trans (k2.trans (k3.trans k4))
  have Q : Hid (E = s + 5 ∧ d = s + 6 ∧ F = s + 11 ∧ w4.heap.size = s + 12 ∧ w.heap.size = s) := ⟨by have := z1.out; omega, by have := z1.out; have := s2.out; omega, by have := z1.out; have := s2.out; have := z3.out; omega, by have := z1.out; have := s2.out; have := z3.out; omega, hs⟩
  clear s4 z3 z1 s2
  go_wp2_with fail
  refine (names_any 65536 w4 (by omega)).mono ?_
  rintro e w5 ⟨a1, c1, rfl, o1, k5⟩
  have E5 := k5.at E4
  obtain ⟨x0, x1, x2, x3, x4⟩ := cells5 E5
  obtain ⟨f0, f1, f2, f3, f4, -, -, -⟩ := frozen8 E5
  obtain ⟨w6, hw6, E6, n6, s6, p6⟩ := put1 (i := 1) E5 (.slice a1 65536 c1)
  go_wp2_with fail
  refine (names_any 65537 w6 (by omega)).mono ?_
  rintro e w7 ⟨a2, c2, rfl, o2, k7⟩
  have F7 := k7.at ((n6 F (by have := Q.out; omega)).trans (k5.at t4))
  have E7 := k7.at E6
  replace E7 : w7.heap[E]? = some (.cells (ev nm1 a1 65536 c1 1 (some ⟨s + 1 + 1, 0, none⟩) 1 1 (some ⟨s + 1 + 1 + 1 + 1, 0, none⟩) 1 1) 26 (0, 0)) := by simpa using E7
  clear x0 x1 x2 x3 x4 f0 f1 f2 f3 f4
  obtain ⟨x0, x1, x2, x3, x4⟩ := cells5 F7
  obtain ⟨f0, f1, f2, f3, f4, -, -, -⟩ := frozen8 F7
  obtain ⟨w8, hw8, F8, n8, s8, p8⟩ := put1 (i := 1) F7 (.slice a2 65537 c2)
  replace F8 : w8.heap[F]? = some (.cells (ev nm1 a2 65537 c2 1 (some ⟨d + 1 + 1, 0, none⟩) 1 1 (some ⟨d + 1 + 1 + 1 + 1, 0, none⟩) 1 1) 26 (0, 0)) := by simpa using F8
  have E8 := (n8 E (by have := Q.out; omega)).trans E7
  have k06 : Keep w w6 := p6 w (k04.trans k5) (by have := Q.out; omega)
  have k08 : Keep w w8 := p8 w (k06.trans k7) (by have := Q.out; omega)
  have M8 : Sm w8 s := ((((M4.keep k5).same (w' := w6) (fun k h1 h2 => n6 k (by have := Q.out; omega))).keep k7).same (w' := w8) (fun k h1 h2 => n8 k (by have := Q.out; omega)))
  have P8 : Sm w8 d := ((((P4.keep k5).same (w' := w6) (fun k h1 h2 => n6 k (by have := Q.out; omega))).keep k7).same (w' := w8) (fun k h1 h2 => n8 k (by have := Q.out; omega)))
  have O1 : OwnS w4.heap.size w8 (.slice a1 65536 c1) (nms 65536) := ((o1.same (w' := w6) (fun b hb => n6 b (by have := (o1.block hb).1; have := Q.out; omega))).keep k7).same (fun b hb => n8 b (by have := (o1.block hb).1; have := Q.out; omega))
  have O2 : OwnS w6.heap.size w8 (.slice a2 65537 c2) (nms 65537) := o2.same (fun b hb => n8 b (by have := (o2.block hb).1; have := k5.le; have := Q.out; omega))
  have hAt : Calls Tryd.prog 6 #[.agg (ev nm1 a1 65536 c1 1 (some ⟨s + 1 + 1, 0, none⟩) 1 1 (some ⟨s + 1 + 1 + 1 + 1, 0, none⟩) 1 1), .agg (ev nm1 a2 65537 c2 1 (some ⟨d + 1 + 1, 0, none⟩) 1 1 (some ⟨d + 1 + 1 + 1 + 1, 0, none⟩) 1 1), .int .i64 2] w8 fun e w' => e = .returned (.bool true) ∧ Keep w8 w' := by
    have h := at_any (cf := c1) (cg := c2) (cb := 1) (cc := 1) (ct := 1) (cu := 1) (N := 1) (M := 1) w8 2 ((M8.rd (hT.keep k08)).feat O1.rd (by omega)) ((P8.rd (hT.keep k08)).feat O2.rd (by omega)) lim_features lim_features2
    rw [nms_len, nms_len] at h
    exact h
  obtain ⟨v0, v1, v2, v3, v4⟩ := cells5 E8
  obtain ⟨y0, y1, y2, y3, y4⟩ := cells5 F8
  go_wp2_with fail
  refine hAt.mono ?_
  rintro e w9 ⟨rfl, k9⟩
  have E9 := k9.at E8
  have F9 := k9.at F8
  have K9 := k08.trans k9
  have B9 : Hid (s ≤ E ∧ s ≤ F ∧ E ≠ F ∧ E < w9.heap.size ∧ F < w9.heap.size ∧ w.heap.size = s) := ⟨by have := Q.out; omega, by have := Q.out; omega, by have := Q.out; omega, lt_of_at E9, lt_of_at F9, hs⟩
  clear x0 x1 x2 x3 x4 f0 f1 f2 f3 f4 v0 v1 v2 v3 v4 y0 y1 y2 y3 y4 hAt O1 O2 M8 P8 k08 k06 E8 F8 E7 F7 n8 s8 p8 n6 s6 p6 hw8 hw6 E6 E5 k9 k7 k5 Q M4 P4 E4 t4 t2 m1 m3 k1 k2 k3 k4 k04 o1 o2 hw4 hw2
  obtain ⟨d, hd⟩ : ∃ d, w9.heap.size = d := ⟨_, rfl⟩
  go_wp2_with fail
  refine (hSm w9).mono ?_
  rw [hd]
  rintro e wa ⟨rfl, ma, za, ka⟩
  replace za : Hid _ := za
  have Ea := ka.at E9
  obtain ⟨x0, x1, x2, x3, x4⟩ := cells5 Ea
  obtain ⟨f0, f1, f2, f3, f4, -, -, -⟩ := frozen8 Ea
  obtain ⟨wb, hwb, Eb, nb, sb, pb⟩ := put5 Ea (.string nm1) (.slice (some ⟨d + 1, 0, none⟩) 1 1) (.int .i64 1) (.slice (some ⟨d + 1 + 1, 0, none⟩) 1 1) (.slice (some ⟨d + 1 + 1 + 1 + 1, 0, none⟩) 1 1)
  replace sb : Hid _ := sb
  obtain ⟨g, hg⟩ : ∃ g, wb.heap.size = g := ⟨_, rfl⟩
  go_wp2_with fail
  refine (hSm wb).mono ?_
  rw [hg]
  rintro e wc ⟨rfl, mc, zc, kc⟩
  replace zc : Hid _ := zc
  have Q : Hid (s ≤ E ∧ s ≤ F ∧ E ≠ F ∧ E < d ∧ F < d ∧ w.heap.size = s ∧ g = d + 5 ∧ wc.heap.size = d + 10) := by have h1 := za.out; have h2 := sb.out; have h3 := zc.out; have h4 := B9.out; unfold Hid; omega
  have Fc := kc.at ((nb F (by have := Q.out; omega)).trans (ka.at F9))
  clear x0 x1 x2 x3 x4 f0 f1 f2 f3 f4
  obtain ⟨x0, x1, x2, x3, x4⟩ := cells5 Fc
  obtain ⟨f0, f1, f2, f3, f4, -, -, -⟩ := frozen8 Fc
  obtain ⟨w2, hw2, F2, n2, s2, p2⟩ := put5 Fc (.string nm1) (.slice (some ⟨g + 1, 0, none⟩) 1 1) (.int .i64 1) (.slice (some ⟨g + 1 + 1, 0, none⟩) 1 1) (.slice (some ⟨g + 1 + 1 + 1 + 1, 0, none⟩) 1 1)
  have E2 := (n2 E (by have := Q.out; omega)).trans (kc.at Eb)
  have M2 : Sm w2 d := ((ma.same (w' := wb) (fun k h1 h2 => nb k (by have := Q.out; omega))).keep kc).same (fun k h1 h2 => n2 k (by have := Q.out; omega))
  have P2 : Sm w2 g := mc.same (fun k h1 h2 => n2 k (by have := Q.out; omega))
  have K2 : Keep w w2 := p2 w ((pb w (K9.trans ka) (by have := Q.out; omega)).trans kc) (by have := Q.out; omega)
  have R2 : Hid (s ≤ E ∧ s ≤ F ∧ E ≠ F ∧ E < d ∧ F < d ∧ w.heap.size = s ∧ g = d + 5 ∧ w2.heap.size = d + 10) := by have h1 := Q.out; unfold Hid; omega
  clear ma mc za zc sb Q Ea Eb Fc nb n2 pb p2 ka kc E9 F9 K9 B9 hwb s2
  go_wp2_with fail
  clear x0 x1 x2 x3 x4 f0 f1 f2 f3 f4 hw2
  obtain ⟨t, ht⟩ : ∃ t, d + 1 + 1 + 1 + 1 = t := ⟨_, rfl⟩
  obtain ⟨n, hn⟩ : ∃ n, d + 1 + 1 + 1 = n := ⟨_, rfl⟩
  have M2t := M2.t
  rw [ht, hn] at M2t
  rw [ht] at E2
  have Rt : Hid (t = d + 4 ∧ n = d + 3) := ⟨by omega, by omega⟩
  rw [ht]
  have HL : Hid (LT w w2 E t n (.string nm1) (.slice (some ⟨d + 1, 0, none⟩) 1 1) (.int .i64 1) (.slice (some ⟨d + 1 + 1, 0, none⟩) 1 1) 1 w2 (.slice (some ⟨t, 0, none⟩) 1 1)) :=
    ⟨⟨rfl, .inr ⟨t, 1, _, rfl, Nat.le_refl _, M2t, Nat.le_refl _, by simp [maxLen], rfl, rfl⟩⟩, E2, K2, fun _ _ _ _ => rfl, Nat.le_refl _, fun b hb => by cases hb; exact .inl rfl⟩
  clear M2t ht hn E2
  go_loopw [3] (fun kv wr => ∃ (k : Nat) (v : Value), (1 ≤ k ∧ k ≤ 65536) ∧ kv = .int .i64 k ∧ LT w w2 E t n (.string nm1) (.slice (some ⟨d + 1, 0, none⟩) 1 1) (.int .i64 1) (.slice (some ⟨d + 1 + 1, 0, none⟩) 1 1) k wr v) (fun kv _ => 65536 - (intOf kv).toNat)
  case atStart => exact ⟨1, _, by omega, rfl, HL.out⟩
  case round =>
    obtain ⟨k, v, hk, rfl, hI⟩ := hrel
    obtain ⟨av, cv, rfl, hcv, hrv⟩ := hI.own.shape
    have hI' := hI
    rw [List.length_replicate] at hI hrv
    obtain ⟨bv, rfl, hbv⟩ := hrv 0 (by omega)
    rw [show (repK k n).getD 0 tt0 = (0, some ⟨n, 0, none⟩, 1, 1) by rw [List.getD, List.getElem?_replicate, if_pos (by omega)]; rfl] at hbv
    have e0 : wr.cell? ⟨bv, 0, none⟩ = some (.int .i64 0) := hbv 0 _ (by omega) rfl
    have e1 : wr.cell? ⟨bv, 1, none⟩ = some (.slice (some ⟨n, 0, none⟩) 1 1) := hbv 1 _ (by omega) rfl
    obtain ⟨g0, g1, g2, g3, g4⟩ := cells5 hI.bx
    have hgl : t ≤ wr.drew.heap.size := by have := hI.sz; have := R2.out; have := Rt.out; show t ≤ wr.heap.size; omega
    have hKl : (repK k n).length + 1 ≤ 4398046511104 := by rw [List.length_replicate]; omega
    by_cases hkl : k < 65536
    · have hkc : (k : Int) < 65536 := by omega
      have hk0 : 0 < k := by omega
      have hk1 : (0 : Int) < (k : Int) := by omega
      have ga : (wr.alloc (Obj.cells #[Value.int IntKind.i64 0, Value.slice (some ⟨n, 0, none⟩) 1 1] 33)).drew.cell? ⟨E, 4, none⟩ = some (.slice (some ⟨bv, 0, none⟩) k cv) := (((Keep.refl wr).alloc (Obj.cells #[Value.int IntKind.i64 0, Value.slice (some ⟨n, 0, none⟩) 1 1] 33)).drew).cell g4
      go_wp2_with fail
      go_region_law (refine step_appT (B := t) rfl _ _ rfl (repK k n) 0 (some ⟨n, 0, none⟩) 1 1 _ (hI.own.keep (Keep.refl wr).drew) hgl hKl rfl rfl ?_; intro v7 wz hO7 g7 hv7; obtain ⟨a7, c7, rfl, hc7, -⟩ := hO7.shape; obtain ⟨hJ, b7⟩ := hI.step (by have := R2.out; omega) (by have := R2.out; have := Rt.out; omega) (by have := R2.out; omega) (by have := R2.out; have := Rt.out; omega) hO7 g7 hv7; obtain ⟨_, _, _, _, r4⟩ := cells5 b7; have f4 := frozen_of_row _ _ 4 _ 26 b7; replace hJ : Hid _ := hJ; replace b7 : Hid _ := b7)
      all_goals
        go_wp2_with fail
        have hJ := hJ.out
        rw [repK_next, List.length_replicate] at hJ
        exact ⟨⟨k + 1, _, by omega, by go_num, hJ⟩, by simp [intOf]; omega⟩
    · have hkc : ¬ (k : Int) < 65536 := by omega
      have hk6 : Hid (k = 65536) := by unfold Hid; omega
      have hk0 : 0 < k := by omega
      have hk1 : (0 : Int) < (k : Int) := by omega
      have hk9 : k ≤ 65536 := hk.2
      clear hk
      have hFr : wr.heap[F]? = _ := (hI.lo F (by have := R2.out; omega) (by have := R2.out; omega) (by have := R2.out; have := Rt.out; omega)).trans F2
      obtain ⟨y0, y1, y2, y3, y4⟩ := cells5 hFr
      have c4 := hI.kp
      go_wp2_with fail
      have hlA : ([] : List (Int × Option Addr × Nat × Nat)).length + k ≤ 4398046511104 := by simp; omega
      have hEF : E ≠ F := by have := R2.out; omega
      have hbF : bv ≠ F := by have h1 := hI.ob bv rfl; have := R2.out; have := Rt.out; omega
      have hgF : t ≤ wr.heap.size := hgl
      have hnw := OwnT.news hI.own
      have kdr : Keep wr wr.drew := (Keep.refl wr).drew
      obtain ⟨TC, hTC⟩ : ∃ TC, Obj.cells #[Value.int IntKind.i64 0, Value.slice (some ⟨n, 0, none⟩) 1 1] 33 = TC := ⟨_, rfl⟩
      obtain ⟨EC, hEC⟩ : ∃ EC, Obj.cells #[] 33 = EC := ⟨_, rfl⟩
      have kA : Keep wr (wr.drew.alloc EC) := kdr.alloc _
      have kB : Keep wr ((wr.drew.alloc EC).alloc TC) := kA.alloc _
      have kC0 : Keep wr (wr.drew.alloc TC) := kdr.alloc _
      have kC : Keep wr ((wr.drew.alloc TC).alloc EC) := kC0.alloc _
      have oA : OwnT wr.heap.size (wr.drew.alloc EC) (.slice (some ⟨wr.heap.size, 0, none⟩) 0 0) [] := own_empty (by rw [← hEC]; exact heap_alloc_new wr.drew _) (Nat.le_refl _)
      have oB : OwnT wr.heap.size ((wr.drew.alloc EC).alloc TC) (.slice (some ⟨wr.heap.size, 0, none⟩) 0 0) [] := oA.keep ((Keep.refl _).alloc _)
      have oC : OwnT wr.heap.size ((wr.drew.alloc TC).alloc EC) (.slice (some ⟨wr.heap.size + 1, 0, none⟩) 0 0) [] := own_empty (by have h := heap_alloc_new (wr.drew.alloc TC) EC; rw [← hEC] at h; rw [← hEC]; simpa using h) (by omega)
      have tB : ((wr.drew.alloc EC).alloc TC).heap[wr.heap.size + 1]? = some (.cells #[Value.int IntKind.i64 0, Value.slice (some ⟨n, 0, none⟩) 1 1] 33 (0, 0)) := by have h := heap_alloc_new (wr.drew.alloc EC) TC; rw [← hTC] at h; rw [← hTC]; simpa using h
      have tC : ((wr.drew.alloc TC).alloc EC).heap[wr.heap.size]? = some (.cells #[Value.int IntKind.i64 0, Value.slice (some ⟨n, 0, none⟩) 1 1] 33 (0, 0)) := by
        have h := heap_alloc_new wr.drew TC
        rw [← hTC] at h
        rw [← hTC]
        exact ((Keep.refl _).alloc EC).at h
      subst hTC hEC
      go_cut [0] from 29 to 100 (fun rv wx => rv = .bool false ∧ ∃ a9 c9, wx.heap[F]? = some (.cells #[.string nm1, .slice (some ⟨g + 1, 0, none⟩) 1 1, .int .i64 1, .slice (some ⟨g + 1 + 1, 0, none⟩) 1 1, .slice a9 (k + 1) c9] 26 (0, 0)) ∧ OwnT wr.heap.size wx (.slice a9 (k + 1) c9) (repK (k + 1) n) ∧ (∀ b, b < wr.heap.size → b ≠ F → wx.heap[b]? = wr.heap[b]?) ∧ Keep w wx)
      case first =>
        go_region_held3 (fun wx => wx.cell? ⟨E, 4, none⟩ = some (.slice (some ⟨bv, 0, none⟩) k cv) ∧ wx.cell? ⟨bv, 0, none⟩ = some (.int .i64 0) ∧ wx.cell? ⟨bv, 1, none⟩ = some (.slice (some ⟨n, 0, none⟩) 1 1))
          (first
            | exact ⟨g4, e0, e1⟩
            | exact ⟨(cell_set_ne hEF).trans (kq.cell g4), (cell_set_ne hbF).trans (kq.cell e0), (cell_set_ne hbF).trans (kq.cell e1)⟩
            | with_reducible exact ⟨kq.cell g4, kq.cell e0, kq.cell e1⟩
            | with_reducible exact ⟨kz.cell g4, kz.cell e0, kz.cell e1⟩
            | exact ⟨(kz.alloc _).cell g4, (kz.alloc _).cell e0, (kz.alloc _).cell e1⟩
            | exact ⟨kA.cell g4, kA.cell e0, kA.cell e1⟩
            | exact ⟨kC0.cell g4, kC0.cell e0, kC0.cell e1⟩
            | exact ⟨kB.cell g4, kB.cell e0, kB.cell e1⟩
            | exact ⟨kC.cell g4, kC.cell e0, kC.cell e1⟩)
          (first
            | (refine step_appTs (B := wr.heap.size) rfl _ _ rfl [] (repK k n) k (List.length_replicate ..) hk0 _ rfl oA kA.le ⟨bv, 0, none⟩ cv rfl (fun j u hj => kA.cell (hnw j u hj)) hlA ?_; intro v3 wz O3 g3; rw [List.nil_append] at O3; obtain ⟨a3, c3, e3, hc3, -⟩ := O3.shape; rw [List.length_replicate] at e3; subst e3; have kz : Keep wr wz := Below.grown kA g3 kA.le (fun b hb => by cases hb; exact Nat.le_refl _))
            | (refine step_appTs (B := wr.heap.size) rfl _ _ rfl [] (repK k n) k (List.length_replicate ..) hk0 _ rfl oB kB.le ⟨bv, 0, none⟩ cv rfl (fun j u hj => kB.cell (hnw j u hj)) hlA ?_; intro v3 wz O3 g3; rw [List.nil_append] at O3; obtain ⟨a3, c3, e3, hc3, -⟩ := O3.shape; rw [List.length_replicate] at e3; subst e3; have kz : Keep wr wz := Below.grown kB g3 kB.le (fun b hb => by cases hb; exact Nat.le_refl _); have tz := (g3.block (wr.heap.size + 1) (lt_of_at tB) (fun e => by have e' : some (wr.heap.size + 1) = some wr.heap.size := e; simp at e')).trans tB)
            | (refine step_appT (B := wr.heap.size) rfl _ _ rfl (repK k n) 0 (some ⟨n, 0, none⟩) 1 1 _ O3 kz.le hKl rfl rfl ?_; intro v9 wq O9 g9 hv9; rw [repK_next] at O9; obtain ⟨a9, c9, e9, hc9, -⟩ := O9.shape; rw [List.length_replicate] at e9; subst e9; have kq : Keep wr wq := Below.grown (kz.alloc _) g9 (kz.alloc _).le (fun b hb => (O3.block hb).1); have Fq := kq.at hFr; obtain ⟨_, _, _, _, r4⟩ := cells5 Fq; have f4 := frozen_of_row _ _ 4 _ 26 Fq)
            | (refine step_appTs (B := wr.heap.size) rfl _ _ rfl (repK k n) [(0, some ⟨n, 0, none⟩, 1, 1)] 1 rfl (by omega) _ rfl O3 kz.le ⟨wr.heap.size + 1, 0, none⟩ 1 rfl (newsT1 tz) hKl ?_; intro v9 wq O9 g9; rw [repK_next] at O9; obtain ⟨a9, c9, e9, hc9, -⟩ := O9.shape; rw [List.length_replicate] at e9; subst e9; have kq : Keep wr wq := Below.grown kz g9 kz.le (fun b hb => (O3.block hb).1); have Fq := kq.at hFr; obtain ⟨_, _, _, _, r4⟩ := cells5 Fq; have f4 := frozen_of_row _ _ 4 _ 26 Fq)
            | (refine step_appTs (B := wr.heap.size) rfl _ _ rfl (repK k n) [(0, some ⟨n, 0, none⟩, 1, 1)] 1 rfl (by omega) _ rfl O3 kz.le ⟨wr.heap.size, 0, none⟩ 1 rfl (newsT1 tz) hKl ?_; intro v9 wq O9 g9; rw [repK_next] at O9; obtain ⟨a9, c9, e9, hc9, -⟩ := O9.shape; rw [List.length_replicate] at e9; subst e9; have kq : Keep wr wq := Below.grown kz g9 kz.le (fun b hb => (O3.block hb).1); have Fq := kq.at hFr; obtain ⟨_, _, _, _, r4⟩ := cells5 Fq; have f4 := frozen_of_row _ _ 4 _ 26 Fq)
            | (refine step_appTs (B := wr.heap.size) rfl _ _ rfl [] (repK k n) k (List.length_replicate ..) hk0 _ rfl oC kC.le ⟨bv, 0, none⟩ cv rfl (fun j u hj => kC.cell (hnw j u hj)) hlA ?_; intro v3 wz O3 g3; rw [List.nil_append] at O3; obtain ⟨a3, c3, e3, hc3, -⟩ := O3.shape; rw [List.length_replicate] at e3; subst e3; have kz : Keep wr wz := Below.grown kC g3 kC.le (fun b hb => by have e' : some (wr.heap.size + 1) = some b := hb; simp only [Option.some.injEq] at e'; omega); have tz := (g3.block wr.heap.size (lt_of_at tC) (fun e => by have e' : some wr.heap.size = some (wr.heap.size + 1) := e; simp at e')).trans tC))
        all_goals
          obtain ⟨wu, hwu, Fu, nu, su, pu⟩ := put1 (i := 4) Fq (.slice a9 (k + 1) c9)
          go_wp2_with fail
          go_meet
          case rel => subst hwu; exact ⟨rfl, a9, c9, by simpa using Fu, O9.same (fun b hb => nu b (by have := (O9.block hb).1; have := R2.out; have := hI.sz; omega)), fun b h1 h2 => (nu b h2).trans (kq.block b h1), pu w (hI.kp.trans kq) (by have := R2.out; omega)⟩
      case rest =>
        obtain ⟨rfl, a9, c9, Fu, O9, lu, ku⟩ := hcut
        have hkk := hk6.out
        have tr : ∀ b, d < b → b ≤ d + 9 → b ≠ t → wc.heap[b]? = w2.heap[b]? := fun b h1 h2 h3 => (lu b (by have := hI.sz; have := R2.out; omega) (by have := R2.out; omega)).trans (hI.lo b (by have := R2.out; omega) (by have := R2.out; omega) h3)
        have Eu := (lu E (lt_of_at hI.bx) hEF).trans hI.bx
        have Oe : OwnT t wc (.slice (some ⟨bv, 0, none⟩) k cv) (repK k n) := hI.own.same (fun b hb => lu b (by obtain ⟨_, cur, hh⟩ := hI.own.block hb; exact lt_of_at hh) (by have := hI.ob b hb; have := R2.out; have := Rt.out; omega))
        have nn : wc.heap[n]? = some (.cells (nvs lf5 none 0) 40 (0, 0)) := (tr n (by have := Rt.out; omega) (by have := Rt.out; omega) (by have := Rt.out; omega)).trans (by rw [show n = d + 1 + 1 + 1 by have := Rt.out; omega]; exact M2.n)
        have hEe := EnA.mk1 (hT.keep ku) ((tr (d + 1) (by omega) (by omega) (by have := Rt.out; omega)).trans M2.f) ((tr (d + 1 + 1) (by omega) (by omega) (by have := Rt.out; omega)).trans M2.b) (by decide) (by rw [List.length_replicate]; omega) (rep_n k) (rep_rdT Oe nn).2
        have hEf := EnA.mk1 (hT.keep ku) ((tr (g + 1) (by have := R2.out; omega) (by have := R2.out; omega) (by have := Rt.out; have := R2.out; omega)).trans P2.f) ((tr (g + 1 + 1) (by have := R2.out; omega) (by have := R2.out; omega) (by have := Rt.out; have := R2.out; omega)).trans P2.b) (by decide) (by rw [List.length_replicate]; omega) (rep_n (k + 1)) (rep_rdT O9 nn).2
        have hAt : Calls Tryd.prog 6 #[.agg (ev nm1 (some ⟨d + 1, 0, none⟩) 1 1 1 (some ⟨d + 1 + 1, 0, none⟩) 1 1 (some ⟨bv, 0, none⟩) k cv), .agg (ev nm1 (some ⟨g + 1, 0, none⟩) 1 1 1 (some ⟨g + 1 + 1, 0, none⟩) 1 1 a9 (k + 1) c9), .int .i64 7] wc fun e w' => e = .returned (.bool true) ∧ Keep wc w' := by
          have h := at_any (cf := 1) (cg := 1) (cb := 1) (cc := 1) (ct := cv) (cu := c9) (N := 1) (M := 1) wc 7 hEe hEf (by rw [hkk]; exact lim_trees) (by rw [hkk]; exact lim_trees2)
          rw [List.length_replicate, List.length_replicate] at h
          exact h
        clear hEe hEf nn Oe O9 tr hkk
        obtain ⟨x0, x1, x2, x3, x4⟩ := cells5 Eu
        obtain ⟨v0, v1, v2, v3, v4⟩ := cells5 Fu
        go_wp2_with fail
        refine hAt.mono ?_
        rintro e w20 ⟨rfl, k20⟩
        have E20 := k20.at Eu
        have F20 := k20.at Fu
        have K20 := ku.trans k20
        have B20 : Hid (s ≤ E ∧ s ≤ F ∧ E ≠ F ∧ E < w20.heap.size ∧ F < w20.heap.size ∧ w.heap.size = s) := ⟨by have := R2.out; omega, by have := R2.out; omega, hEF, lt_of_at E20, lt_of_at F20, hs⟩
        clear x0 x1 x2 x3 x4 v0 v1 v2 v3 v4 hAt Eu Fu lu ku hI hI' HL M2 P2 R2 Rt F2 K2 hFr y0 y1 y2 y3 y4 g0 g1 g2 g3 g4 e0 e1 hbv hrv hcv c4 hEF hbF hgF hnw kdr kA kB kC0 kC oA oB oC tB tC hgl hKl hlA hk0 hk1 hk9 hk6 hkc hkl
        obtain ⟨d, hd⟩ : ∃ d, w20.heap.size = d := ⟨_, rfl⟩
        go_wp2_with fail
        refine (hSm w20).mono ?_
        rw [hd]
        rintro e wa ⟨rfl, ma, za, ka⟩
        replace za : Hid _ := za
        have Ea := ka.at E20
        obtain ⟨x0, x1, x2, x3, x4⟩ := cells5 Ea
        obtain ⟨f0, f1, f2, f3, f4, -, -, -⟩ := frozen8 Ea
        obtain ⟨wb, hwb, Eb, nb, sb, pb⟩ := put5 Ea (.string nm1) (.slice (some ⟨d + 1, 0, none⟩) 1 1) (.int .i64 1) (.slice (some ⟨d + 1 + 1, 0, none⟩) 1 1) (.slice (some ⟨d + 1 + 1 + 1 + 1, 0, none⟩) 1 1)
        replace sb : Hid _ := sb
        obtain ⟨g, hg⟩ : ∃ g, wb.heap.size = g := ⟨_, rfl⟩
        go_wp2_with fail
        refine (hSm wb).mono ?_
        rw [hg]
        rintro e wc ⟨rfl, mc, zc, kc⟩
        replace zc : Hid _ := zc
        have Q : Hid (s ≤ E ∧ s ≤ F ∧ E ≠ F ∧ E < d ∧ F < d ∧ w.heap.size = s ∧ g = d + 5 ∧ wc.heap.size = d + 10) := by have h1 := za.out; have h2 := sb.out; have h3 := zc.out; have h4 := B20.out; unfold Hid; omega
        have Fc := kc.at ((nb F (by have := Q.out; omega)).trans (ka.at F20))
        clear x0 x1 x2 x3 x4 f0 f1 f2 f3 f4
        obtain ⟨x0, x1, x2, x3, x4⟩ := cells5 Fc
        obtain ⟨f0, f1, f2, f3, f4, -, -, -⟩ := frozen8 Fc
        obtain ⟨w3, hw3, F3, n3, s3, p3⟩ := put5 Fc (.string nm1) (.slice (some ⟨g + 1, 0, none⟩) 1 1) (.int .i64 1) (.slice (some ⟨g + 1 + 1, 0, none⟩) 1 1) (.slice (some ⟨g + 1 + 1 + 1 + 1, 0, none⟩) 1 1)
        have E3 := (n3 E (by have := Q.out; omega)).trans (kc.at Eb)
        have M3 : Sm w3 d := ((ma.same (w' := wb) (fun k h1 h2 => nb k (by have := Q.out; omega))).keep kc).same (fun k h1 h2 => n3 k (by have := Q.out; omega))
        have P3 : Sm w3 g := mc.same (fun k h1 h2 => n3 k (by have := Q.out; omega))
        have K3 : Keep w w3 := p3 w ((pb w (K20.trans ka) (by have := Q.out; omega)).trans kc) (by have := Q.out; omega)
        have R3 : Hid (s ≤ E ∧ s ≤ F ∧ E ≠ F ∧ E < d ∧ F < d ∧ w.heap.size = s ∧ g = d + 5 ∧ w3.heap.size = d + 10) := by have h1 := Q.out; unfold Hid; omega
        clear ma mc za zc sb Q Ea Eb Fc nb n3 pb p3 ka kc E20 F20 K20 B20 hwb s3
        go_wp2_with fail
        clear x0 x1 x2 x3 x4 f0 f1 f2 f3 f4 hw3
        obtain ⟨m, hm⟩ : ∃ m, m = 4095 := ⟨_, rfl⟩
        have hC1 : ∀ wx, Calls Tryd.prog 7 #[.int .i64 4096] wx fun e w' => ∃ a c, e = .returned (.agg #[.int .i64 0, .slice a (2 * m + 1) c]) ∧ OwnN (wx.heap.size + 1) w' (.slice a (2 * m + 1) c) (bare (comb m)) ∧ Keep wx w' := by subst hm; exact fun wx => comb_any 4095 (by omega) wx
        have hC2 : ∀ wx, Calls Tryd.prog 7 #[.int .i64 4097] wx fun e w' => ∃ a c, e = .returned (.agg #[.int .i64 0, .slice a (2 * (m + 1) + 1) c]) ∧ OwnN (wx.heap.size + 1) w' (.slice a (2 * (m + 1) + 1) c) (bare (comb (m + 1))) ∧ Keep wx w' := by subst hm; exact fun wx => comb_any 4096 (by omega) wx
        replace hm : Hid _ := hm
        obtain ⟨t, ht⟩ : ∃ t, d + 1 + 1 + 1 + 1 = t := ⟨_, rfl⟩
        obtain ⟨u, hu⟩ : ∃ u, g + 1 + 1 + 1 + 1 = u := ⟨_, rfl⟩
        have T3 := M3.t
        have U3 := P3.t
        rw [ht] at T3 E3
        rw [hu] at U3 F3
        rw [ht, hu]
        have Rt : Hid (t = d + 4 ∧ u = d + 9 ∧ g = d + 5 ∧ E < d ∧ F < d ∧ s ≤ E ∧ s ≤ F ∧ E ≠ F ∧ w.heap.size = s ∧ w3.heap.size = d + 10) := by have := R3.out; unfold Hid; omega
        clear ht hu
        have x4 := (cells5 E3).2.2.2.2
        go_region_held3 (fun wx => wx.cell? ⟨E, 4, none⟩ = some (.slice (some ⟨t, 0, none⟩) 1 1)) (first | exact x4 | with_reducible exact x6 | (rw [hw6]; exact x6) | exact k35.cell x4) (first | (go_at_call 7; refine (hC1 _).mono ?_; rintro e w5 ⟨a5, c5, rfl, O5, k5⟩; have k35 : Keep w3 w5 := (Keep.refl w3).drew.trans k5; have T5 := k35.at T3; obtain ⟨q0, q1, r0, r1⟩ := cells2 T5; obtain ⟨w6, hw6, T6, n6, s6, p6⟩ := put2 T5 (.int .i64 0) (.slice a5 (2 * m + 1) c5); have x6 : w6.cell? ⟨E, 4, none⟩ = some (.slice (some ⟨t, 0, none⟩) 1 1) := (cell_same (n6 E (by have := Rt.out; omega))).trans (k35.cell x4)))
        have F6 := (n6 F (by have := Rt.out; omega)).trans (k35.at F3)
        have U6 := (n6 u (by have := Rt.out; omega)).trans (k35.at U3)
        have y4 := (cells5 F6).2.2.2.2
        have E6 := (n6 E (by have := Rt.out; omega)).trans (k35.at E3)
        have sz6 : Hid (w3.heap.size ≤ w6.heap.size) := by unfold Hid; rw [s6]; exact k35.le
        replace s6 : Hid _ := s6
        have O5' : Hid (OwnN (w3.heap.size + 1) w5 (.slice a5 (2 * m + 1) c5) (bare (comb m))) := O5
        clear O5
        go_wp2_with fail
        go_region_held3 (fun wx => wx.cell? ⟨F, 4, none⟩ = some (.slice (some ⟨u, 0, none⟩) 1 1)) (first | exact y4 | with_reducible exact y8 | (rw [hw8]; exact y8) | exact k67.cell y4) (first | (go_at_call 7; refine (hC2 _).mono ?_; rintro e w7 ⟨a7, c7, rfl, O7, k7⟩; have k67 : Keep w6 w7 := (Keep.refl w6).drew.trans k7; have U7 := k67.at U6; obtain ⟨q0, q1, r0, r1⟩ := cells2 U7; obtain ⟨w8, hw8, U8, n8, s8, p8⟩ := put2 U7 (.int .i64 0) (.slice a7 (2 * (m + 1) + 1) c7); have y8 : w8.cell? ⟨F, 4, none⟩ = some (.slice (some ⟨u, 0, none⟩) 1 1) := (cell_same (n8 F (by have := Rt.out; omega))).trans (k67.cell y4)))
        replace O7 : OwnN (w6.heap.size + 1) w7 (.slice a7 (2 * (m + 1) + 1) c7) (bare (comb (m + 1))) := O7
        have E8 := (n8 E (by have := Rt.out; omega)).trans (k67.at E6)
        have F8 := (n8 F (by have := Rt.out; omega)).trans (k67.at F6)
        have T8 := (n8 t (by have := Rt.out; omega)).trans (k67.at T6)
        have k08 : Keep w w8 := p8 w ((p6 w (K3.trans k35) (by have := Rt.out; omega)).trans k67) (by have := Rt.out; omega)
        have tr8 : ∀ b, d < b → b ≤ d + 9 → b ≠ t → b ≠ u → w8.heap[b]? = w3.heap[b]? := fun b h1 h2 h3 h4 => (n8 b h4).trans ((k67.block b (by have := sz6.out; have := Rt.out; omega)).trans ((n6 b h3).trans (k35.block b (by have := Rt.out; omega))))
        have O58 : OwnN (w3.heap.size + 1) w8 (.slice a5 (2 * m + 1) c5) (bare (comb m)) := ((O5'.out.same (w' := w6) (fun b hb => n6 b (by have := (O5'.out.block hb).1; have := Rt.out; omega))).keep k67).same (fun b hb => n8 b (by have := (O5'.out.block hb).1; have := Rt.out; omega))
        have O78 : OwnN (w6.heap.size + 1) w8 (.slice a7 (2 * (m + 1) + 1) c7) (bare (comb (m + 1))) := O7.same (fun b hb => n8 b (by have := (O7.block hb).1; have := Rt.out; have := sz6.out; omega))
        have hl1 := comb_len m
        have hl2 := comb_len (m + 1)
        have hm4 : m = 4095 := hm.out
        have B1 := bare_rd O58 (fun j hj => comb_fit m (by omega) j hj)
        have B2 := bare_rd O78 (fun j hj => comb_fit (m + 1) (by omega) j hj)
        have hEe8 := EnA.mk1 (hT.keep k08) ((tr8 (d + 1) (by omega) (by omega) (by have := Rt.out; omega) (by have := Rt.out; omega)).trans M3.f) ((tr8 (d + 1 + 1) (by omega) (by omega) (by have := Rt.out; omega) (by have := Rt.out; omega)).trans M3.b) (by decide) (by simp) (one_n _ (by rw [hl1]; omega)) (one_rdT (by rw [hl1]; exact T8) B1.2.2 (by rw [hl1]; exact B1.2.1) (by rw [hl1]; omega))
        have hEf8 := EnA.mk1 (hT.keep k08) ((tr8 (g + 1) (by have := Rt.out; omega) (by have := Rt.out; omega) (by have := Rt.out; omega) (by have := Rt.out; omega)).trans P3.f) ((tr8 (g + 1 + 1) (by have := Rt.out; omega) (by have := Rt.out; omega) (by have := Rt.out; omega) (by have := Rt.out; omega)).trans P3.b) (by decide) (by simp) (one_n _ (by rw [hl2]; omega)) (one_rdT (by rw [hl2]; exact U8) B2.2.2 (by rw [hl2]; exact B2.2.1) (by rw [hl2]; omega))
        have hAt : Calls Tryd.prog 6 #[.agg (ev nm1 (some ⟨d + 1, 0, none⟩) 1 1 1 (some ⟨d + 1 + 1, 0, none⟩) 1 1 (some ⟨t, 0, none⟩) 1 1), .agg (ev nm1 (some ⟨g + 1, 0, none⟩) 1 1 1 (some ⟨g + 1 + 1, 0, none⟩) 1 1 (some ⟨u, 0, none⟩) 1 1), .int .i64 12] w8 fun e w' => e = .returned (.bool true) ∧ Keep w8 w' := by
          have hL2 : (chB nm1 sfs 1 [0] [(0, comb (m + 1))]).1 = 12 := lim_nodes2 _ (by rw [hl2]; omega) (by rw [hl2]; omega)
          have hL1 : (chB nm1 sfs 1 [0] [(0, comb m)]).1 = 0 := by rw [hm4]; exact lim_leaves
          generalize comb m = C1 at hEe8 hL1
          generalize comb (m + 1) = C2 at hEf8 hL2
          have h := at_any (cf := 1) (cg := 1) (cb := 1) (cc := 1) (ct := 1) (cu := 1) (N := 1) (M := 1) w8 12 hEe8 hEf8 hL1 hL2
          exact h
        clear hEe8 hEf8 B1 B2 hl2 O78 O7 hm4
        obtain ⟨x0, x1, x2, x3, x5⟩ := cells5 E8
        obtain ⟨v0, v1, v2, v3, v4⟩ := cells5 F8
        go_wp2_with fail
        refine hAt.mono ?_
        rintro e w10 ⟨rfl, k10⟩
        clear x0 x1 x2 x3 x5 v0 v1 v2 v3 v4 hAt
        have E10 := k10.at E8
        have F10 := k10.at F8
        have T10 := k10.at T8
        have U10 := k10.at U8
        have O510 := O58.keep k10
        have tr10 : ∀ b, d < b → b ≤ d + 9 → b ≠ t → b ≠ u → w10.heap[b]? = w3.heap[b]? := fun b h1 h2 h3 h4 => (k10.block b (by rw [s8]; have := k67.le; have := sz6.out; have := Rt.out; omega)).trans (tr8 b h1 h2 h3 h4)
        have k010 := k08.trans k10
        have sz10 : Hid (w3.heap.size ≤ w10.heap.size) := by unfold Hid; have h1 := k10.le; rw [s8] at h1; have := k67.le; have := sz6.out; omega
        clear O58 E8 F8 T8 U8 tr8 k08 k10 y4 x4 y8 x6 n8 n6 s8 s6 p8 p6 hw8 hw6 T6 U6 F6 E6 k67 k35 O5' k5 k7 sz6 hC2 q0 q1 r0 r1 U7 T5 E3 F3 T3 U3 K3 R3
        have y10 := (cells5 F10).2.2.2.2
        go_wp2_with fail
        go_region_held3 (fun wx => wx.cell? ⟨F, 4, none⟩ = some (.slice (some ⟨u, 0, none⟩) 1 1)) (first | exact y10 | with_reducible exact y12 | (rw [hw12]; exact y12) | exact k1011.cell y10) (first | (go_at_call 7; refine (hC1 _).mono ?_; rintro e w11 ⟨a11, c11, rfl, O11, k11⟩; have k1011 : Keep w10 w11 := (Keep.refl w10).drew.trans k11; have U11 := k1011.at U10; obtain ⟨q0, q1, r0, r1⟩ := cells2 U11; obtain ⟨w12, hw12, U12, n12, s12, p12⟩ := put2 U11 (.int .i64 0) (.slice a11 (2 * m + 1) c11); have y12 : w12.cell? ⟨F, 4, none⟩ = some (.slice (some ⟨u, 0, none⟩) 1 1) := (cell_same (n12 F (by have := Rt.out; omega))).trans (k1011.cell y10)))
        replace O11 : OwnN (w10.heap.size + 1) w11 (.slice a11 (2 * m + 1) c11) (bare (comb m)) := O11
        have O12 : OwnN (w10.heap.size + 1) w12 (.slice a11 (2 * m + 1) c11) (bare (comb m)) := O11.same (fun b hb => n12 b (by have := (O11.block hb).1; have := Rt.out; have := sz10.out; omega))
        have E12 := (n12 E (by have := Rt.out; omega)).trans (k1011.at E10)
        have F12 := (n12 F (by have := Rt.out; omega)).trans (k1011.at F10)
        have T12 := (n12 t (by have := Rt.out; omega)).trans (k1011.at T10)
        have O512 : OwnN (w3.heap.size + 1) w12 (.slice a5 (2 * m + 1) c5) (bare (comb m)) := (O510.keep k1011).same (fun b hb => n12 b (by have := (O510.block hb).1; have := Rt.out; omega))
        have b512 : Hid (∀ b, (Value.slice a5 (2 * m + 1) c5).ownBlock = some b → b < w10.heap.size) := fun b hb => by obtain ⟨_, cur, hh⟩ := O510.block hb; exact lt_of_at hh
        have k012 : Keep w w12 := p12 w (k010.trans k1011) (by have := Rt.out; omega)
        have tr12 : ∀ b, d < b → b ≤ d + 9 → b ≠ t → b ≠ u → w12.heap[b]? = w3.heap[b]? := fun b h1 h2 h3 h4 => (n12 b h4).trans ((k1011.block b (by have := sz10.out; have := Rt.out; omega)).trans (tr10 b h1 h2 h3 h4))
        have sz12 : Hid (w10.heap.size ≤ w12.heap.size) := by unfold Hid; rw [s12]; exact k1011.le
        replace s12 : Hid _ := s12
        have z12 := (cells2 U12).2.1
        have kL : Keep w12 (w12.drew.alloc (Obj.cells #[.int .u8 1, .int .i64 0, .int .i64 0, .float .f64 0, .slice none 0 0, .int .u8 0, .int .i64 0, .int .i64 0] 40)) := ((Keep.refl w12).drew).alloc _
        have za : (w12.alloc (Obj.cells #[.int .u8 1, .int .i64 0, .int .i64 0, .float .f64 0, .slice none 0 0, .int .u8 0, .int .i64 0, .int .i64 0] 40)).drew.cell? ⟨u, 1, none⟩ = some (.slice a11 (2 * m + 1) c11) := kL.cell z12
        have hlN : (bare (comb m)).length + 1 ≤ 1759218604441 := by rw [bare_len, hl1]; have := hm.out; omega
        have hBL : w10.heap.size + 1 ≤ (w12.drew.alloc (Obj.cells #[.int .u8 1, .int .i64 0, .int .i64 0, .float .f64 0, .slice none 0 0, .int .u8 0, .int .i64 0, .int .i64 0] 40)).heap.size := by rw [World.size_alloc]; show _ ≤ w12.heap.size + 1; have := sz12.out; omega
        clear q0 q1 r0 r1
        go_wp2_with fail
        go_cut [0] from 62 to 100 (fun rv wx => rv = .bool false ∧ ∃ a13 c13, wx.heap[u]? = some (.cells #[.int .i64 0, .slice a13 (2 * m + 1 + 1) c13] 33 (0, 0)) ∧ OwnN (w10.heap.size + 1) wx (.slice a13 (2 * m + 1 + 1) c13) (bare (comb m ++ [lf0])) ∧ (∀ b, b < w12.heap.size → b ≤ w10.heap.size → b ≠ u → wx.heap[b]? = w12.heap[b]?) ∧ Keep w wx)
        case first =>
          have ya : (w12.alloc (Obj.cells #[.int .u8 1, .int .i64 0, .int .i64 0, .float .f64 0, .slice none 0 0, .int .u8 0, .int .i64 0, .int .i64 0] 40)).drew.cell? ⟨F, 4, none⟩ = some (.slice (some ⟨u, 0, none⟩) 1 1) := kL.cell y12
          go_region_law (refine step_appN (B := w10.heap.size + 1) rfl _ _ rfl (bare (comb m)) [(lf0, none, 0)] 1 rfl (by omega) _ rfl (O12.keep kL) hBL ⟨w12.heap.size, 0, none⟩ 1 rfl (newsN0 (heap_alloc_new w12.drew _)) hlN ?_; intro v13 w13 O13 g13; rw [bare_snoc] at O13; obtain ⟨a13, c13, e13, hc13, -⟩ := O13.shape; rw [bare_len, List.length_append, hl1, List.length_singleton] at e13; subst e13; have hb13 : ∀ b, b < w12.heap.size → b ≤ w10.heap.size → w13.heap[b]? = w12.heap[b]? := (fun b h1 h2 => (g13.block b (Nat.lt_of_lt_of_le h1 kL.le) (fun e => by have := (O12.block e.symm).1; omega)).trans (kL.block b h1)); have U13 := (hb13 u (lt_of_at U12) (by have := Rt.out; have := sz10.out; omega)).trans U12; have y13 := (cell_same (o := 4) (hb13 F (lt_of_at F12) (by have := Rt.out; have := sz10.out; omega))).trans y12; obtain ⟨q0, q1, r0, r1⟩ := cells2 U13; obtain ⟨w14, hw14, U14, n14, s14, p14⟩ := put1 (i := 1) U13 (.slice a13 (2 * m + 1 + 1) c13); have y14 := (cell_same (o := 4) (n14 F (by have := Rt.out; omega))).trans y13)
          all_goals
            go_wp2_with fail
            go_meet
            case rel => subst hw14; exact ⟨rfl, a13, c13, by simpa using U14, O13.same (fun b hb => n14 b (by have := (O13.block hb).1; have := Rt.out; have := sz10.out; omega)), fun b h1 h2 h3 => (n14 b h3).trans (hb13 b h1 h2), p14 w (Below.grown (k012.trans kL) g13 (k012.trans kL).le (fun b hb => by have := (O12.block hb).1; have := sz10.out; have := Rt.out; omega)) (by have := Rt.out; omega)⟩
        case rest =>
          obtain ⟨rfl, a13, c13, U14, O14, lo14, k014⟩ := hcut
          have E14 := (lo14 E (lt_of_at E12) (by have := Rt.out; have := sz10.out; omega) (by have := Rt.out; omega)).trans E12
          have F14 := (lo14 F (lt_of_at F12) (by have := Rt.out; have := sz10.out; omega) (by have := Rt.out; omega)).trans F12
          have T14 := (lo14 t (lt_of_at T12) (by have := Rt.out; have := sz10.out; omega) (by have := Rt.out; omega)).trans T12
          have O514 : OwnN (w3.heap.size + 1) wc (.slice a5 (2 * m + 1) c5) (bare (comb m)) := O512.same (fun b hb => lo14 b (by obtain ⟨_, cur, hh⟩ := O512.block hb; exact lt_of_at hh) (Nat.le_of_lt (b512.out b hb)) (by have := (O512.block hb).1; have := Rt.out; omega))
          have tr14 : ∀ b, d < b → b ≤ d + 9 → b ≠ t → b ≠ u → wc.heap[b]? = w3.heap[b]? := fun b h1 h2 h3 h4 => (lo14 b (by have := sz12.out; have := sz10.out; have := Rt.out; omega) (by have := sz10.out; have := Rt.out; omega) h4).trans (tr12 b h1 h2 h3 h4)
          have hl3 : (comb m ++ [lf0]).length = 2 * m + 1 + 1 := by rw [List.length_append, hl1]; rfl
          have hm4 : m = 4095 := hm.out
          have B1 := bare_rd O514 (fun j hj => comb_fit m (by omega) j hj)
          have B2 := bare_rd O14 (fun j hj => comb0_fit m (by omega) j hj)
          have hEe := EnA.mk1 (hT.keep k014) ((tr14 (d + 1) (by omega) (by omega) (by have := Rt.out; omega) (by have := Rt.out; omega)).trans M3.f) ((tr14 (d + 1 + 1) (by omega) (by omega) (by have := Rt.out; omega) (by have := Rt.out; omega)).trans M3.b) (by decide) (by simp) (one_n _ (by rw [hl1]; omega)) (one_rdT (by rw [hl1]; exact T14) B1.2.2 (by rw [hl1]; exact B1.2.1) (by rw [hl1]; omega))
          have hEf := EnA.mk1 (hT.keep k014) ((tr14 (g + 1) (by have := Rt.out; omega) (by have := Rt.out; omega) (by have := Rt.out; omega) (by have := Rt.out; omega)).trans P3.f) ((tr14 (g + 1 + 1) (by have := Rt.out; omega) (by have := Rt.out; omega) (by have := Rt.out; omega) (by have := Rt.out; omega)).trans P3.b) (by decide) (by simp) (one_n _ (by rw [hl3]; omega)) (one_rdT (by rw [hl3]; exact U14) B2.2.2 (by rw [hl3]; exact B2.2.1) (by rw [hl3]; omega))
          have hAt : Calls Tryd.prog 6 #[.agg (ev nm1 (some ⟨d + 1, 0, none⟩) 1 1 1 (some ⟨d + 1 + 1, 0, none⟩) 1 1 (some ⟨t, 0, none⟩) 1 1), .agg (ev nm1 (some ⟨g + 1, 0, none⟩) 1 1 1 (some ⟨g + 1 + 1, 0, none⟩) 1 1 (some ⟨u, 0, none⟩) 1 1), .int .i64 12] wc fun e w' => e = .returned (.bool true) ∧ Keep wc w' := by
            have hL2 : (chB nm1 sfs 1 [0] [(0, comb m ++ [lf0])]).1 = 12 := lim_nodes2 _ (by rw [hl3]; omega) (by rw [hl3]; omega)
            have hL1 : (chB nm1 sfs 1 [0] [(0, comb m)]).1 = 0 := by rw [hm4]; exact lim_leaves
            generalize comb m ++ [lf0] = C2 at hEf hL2
            generalize comb m = C1 at hEe hL1
            have h := at_any (cf := 1) (cg := 1) (cb := 1) (cc := 1) (ct := 1) (cu := 1) (N := 1) (M := 1) wc 12 hEe hEf hL1 hL2
            exact h
          clear hEe hEf B1 B2 hm4 O14 O514
          obtain ⟨x0, x1, x2, x3, x5⟩ := cells5 E14
          obtain ⟨v0, v1, v2, v3, v4⟩ := cells5 F14
          go_wp2_with fail
          refine hAt.mono ?_
          rintro e w30 ⟨rfl, k30⟩
          have E30 := k30.at E14
          have F30 := k30.at F14
          have K30 := k014.trans k30
          have B30 : Hid (s ≤ E ∧ s ≤ F ∧ E ≠ F ∧ E < w30.heap.size ∧ F < w30.heap.size ∧ w.heap.size = s) := ⟨by have := Rt.out; omega, by have := Rt.out; omega, by have := Rt.out; omega, lt_of_at E30, lt_of_at F30, hs⟩
          clear x0 x1 x2 x3 x5 v0 v1 v2 v3 v4 hAt E14 F14 T14 U14 lo14 k014 k30 tr14 tr12 tr10 E12 F12 T12 U12 O12 O512 b512 k012 k1011 n12 p12 s12 hw12 O11 O510 E10 F10 T10 U10 k010 sz10 sz12 y10 y12 z12 kL za hlN hBL hC1 hm hl1 hl3 M3 P3 Rt U11
          obtain ⟨d, hd⟩ : ∃ d, w30.heap.size = d := ⟨_, rfl⟩
          go_wp2_with fail
          refine (hSm w30).mono ?_
          rw [hd]
          rintro e wa ⟨rfl, ma, za, ka⟩
          replace za : Hid _ := za
          have Ea := ka.at E30
          obtain ⟨x0, x1, x2, x3, x4⟩ := cells5 Ea
          obtain ⟨f0, f1, f2, f3, f4, -, -, -⟩ := frozen8 Ea
          obtain ⟨wb, hwb, Eb, nb, sb, pb⟩ := put5 Ea (.string nm1) (.slice (some ⟨d + 1, 0, none⟩) 1 1) (.int .i64 1) (.slice (some ⟨d + 1 + 1, 0, none⟩) 1 1) (.slice (some ⟨d + 1 + 1 + 1 + 1, 0, none⟩) 1 1)
          replace sb : Hid _ := sb
          obtain ⟨g, hg⟩ : ∃ g, wb.heap.size = g := ⟨_, rfl⟩
          go_wp2_with fail
          refine (hSm wb).mono ?_
          rw [hg]
          rintro e wc ⟨rfl, mc, zc, kc⟩
          replace zc : Hid _ := zc
          have Q : Hid (s ≤ E ∧ s ≤ F ∧ E ≠ F ∧ E < d ∧ F < d ∧ w.heap.size = s ∧ g = d + 5 ∧ wc.heap.size = d + 10) := by have h1 := za.out; have h2 := sb.out; have h3 := zc.out; have h4 := B30.out; unfold Hid; omega
          have Fc := kc.at ((nb F (by have := Q.out; omega)).trans (ka.at F30))
          clear x0 x1 x2 x3 x4 f0 f1 f2 f3 f4
          obtain ⟨x0, x1, x2, x3, x4⟩ := cells5 Fc
          obtain ⟨f0, f1, f2, f3, f4, -, -, -⟩ := frozen8 Fc
          obtain ⟨w4, hw4, F4, n4, s4, p4⟩ := put5 Fc (.string nm1) (.slice (some ⟨g + 1, 0, none⟩) 1 1) (.int .i64 1) (.slice (some ⟨g + 1 + 1, 0, none⟩) 1 1) (.slice (some ⟨g + 1 + 1 + 1 + 1, 0, none⟩) 1 1)
          have E4 := (n4 E (by have := Q.out; omega)).trans (kc.at Eb)
          have M4 : Sm w4 d := ((ma.same (w' := wb) (fun k h1 h2 => nb k (by have := Q.out; omega))).keep kc).same (fun k h1 h2 => n4 k (by have := Q.out; omega))
          have P4 : Sm w4 g := mc.same (fun k h1 h2 => n4 k (by have := Q.out; omega))
          have K4 : Keep w w4 := p4 w ((pb w (K30.trans ka) (by have := Q.out; omega)).trans kc) (by have := Q.out; omega)
          have R4 : Hid (s ≤ E ∧ s ≤ F ∧ E ≠ F ∧ E < d ∧ F < d ∧ w.heap.size = s ∧ g = d + 5 ∧ w4.heap.size = d + 10) := by have h1 := Q.out; unfold Hid; omega
          clear ma mc za zc sb Q Ea Eb Fc nb n4 pb p4 ka kc E30 F30 K30 B30 hwb s4
          obtain ⟨y0, y1, y2, y3, y4⟩ := cells5 E4
          obtain ⟨h0, h1, h2, h3, h4, -, -, -⟩ := frozen8 E4
          have r64 : ∀ wx : World, (Instr.makeSlice 23 (.int .i64 64) (.int .i64 64)).run Tryd.prog wx = .ok (.slice (some ⟨wx.heap.size, 0, none⟩) 64 64) (wx.alloc (.cells (madeCells (Value.int .i64 0).cells 64) 2)) := fun wx => made_i64 64 (by omega) wx
          have r65 : ∀ wx : World, (Instr.makeSlice 23 (.int .i64 65) (.int .i64 65)).run Tryd.prog wx = .ok (.slice (some ⟨wx.heap.size, 0, none⟩) 65 65) (wx.alloc (.cells (madeCells (Value.int .i64 0).cells 65) 2)) := fun wx => made_i64 65 (by omega) wx
          obtain ⟨Z4, hZ4⟩ : ∃ Z, madeCells (Value.int .i64 0).cells 64 = Z := ⟨_, rfl⟩
          obtain ⟨Z5, hZ5⟩ : ∃ Z, madeCells (Value.int .i64 0).cells 65 = Z := ⟨_, rfl⟩
          rw [hZ4] at r64
          rw [hZ5] at r65
          obtain ⟨wA, hwA, EA, nA, sA, pA⟩ := put1 (i := 2) E4 (.int .i64 64)
          replace EA : wA.heap[E]? = some (.cells (ev nm1 (some ⟨d + 1, 0, none⟩) 1 1 64 (some ⟨d + 1 + 1, 0, none⟩) 1 1 (some ⟨d + 1 + 1 + 1 + 1, 0, none⟩) 1 1) 26 (0, 0)) := by simpa using EA
          obtain ⟨wB, hwB, kB, tB, sB⟩ := boxed wA Z4 2
          obtain ⟨b4, hb4⟩ : ∃ b, wA.heap.size = b := ⟨_, rfl⟩
          rw [hb4] at tB
          have EB := kB.at EA
          obtain ⟨j0, j1, j2, j3, j4⟩ := cells5 EB
          obtain ⟨l0, l1, l2, l3, l4, -, -, -⟩ := frozen8 EB
          obtain ⟨wC, hwC, EC, nC, sC, pC⟩ := put1 (i := 3) EB (.slice (some ⟨b4, 0, none⟩) 64 64)
          replace EC : wC.heap[E]? = some (.cells (ev nm1 (some ⟨d + 1, 0, none⟩) 1 1 64 (some ⟨b4, 0, none⟩) 64 64 (some ⟨d + 1 + 1 + 1 + 1, 0, none⟩) 1 1) 26 (0, 0)) := by simpa using EC
          have Q4 : Hid (s ≤ E ∧ s ≤ F ∧ E ≠ F ∧ E < d ∧ F < d ∧ w.heap.size = s ∧ g = d + 5 ∧ b4 = d + 10 ∧ wC.heap.size = d + 11 ∧ wA.heap.size = d + 10 ∧ w4.heap.size = d + 10) := by have := R4.out; unfold Hid; omega
          have FC := (nC F (by have := Q4.out; omega)).trans (kB.at ((nA F (by have := Q4.out; omega)).trans F4))
          obtain ⟨o0, o1, o2, o3, o4⟩ := cells5 FC
          obtain ⟨a0, a1', a2', a3, a4, -, -, -⟩ := frozen8 FC
          obtain ⟨wD, hwD, FD, nD, sD, pD⟩ := put1 (i := 2) FC (.int .i64 65)
          replace FD : wD.heap[F]? = some (.cells (ev nm1 (some ⟨g + 1, 0, none⟩) 1 1 65 (some ⟨g + 1 + 1, 0, none⟩) 1 1 (some ⟨g + 1 + 1 + 1 + 1, 0, none⟩) 1 1) 26 (0, 0)) := by simpa using FD
          obtain ⟨wG, hwG, kG, tG, sG⟩ := boxed wD Z5 2
          obtain ⟨b5, hb5⟩ : ∃ b, wD.heap.size = b := ⟨_, rfl⟩
          rw [hb5] at tG
          have FG := kG.at FD
          obtain ⟨i0, i1, i2', i3, i4⟩ := cells5 FG
          obtain ⟨e0, e1, e2, e3, e4, -, -, -⟩ := frozen8 FG
          obtain ⟨wH, hwH, FH, nH, sH, pH⟩ := put1 (i := 3) FG (.slice (some ⟨b5, 0, none⟩) 65 65)
          replace FH : wH.heap[F]? = some (.cells (ev nm1 (some ⟨g + 1, 0, none⟩) 1 1 65 (some ⟨b5, 0, none⟩) 65 65 (some ⟨g + 1 + 1 + 1 + 1, 0, none⟩) 1 1) 26 (0, 0)) := by simpa using FH
          have Q5 : Hid (b5 = d + 11 ∧ wD.heap.size = d + 11 ∧ wG.heap.size = d + 12) := by have := Q4.out; unfold Hid; omega
          have EH := (nH E (by have := Q4.out; omega)).trans (kG.at ((nD E (by have := Q4.out; omega)).trans EC))
          have trH : ∀ b, b < d + 10 → b ≠ E → b ≠ F → wH.heap[b]? = w4.heap[b]? := fun b h1 h2 h3 => (nH b h3).trans ((kG.block b (by have := Q5.out; omega)).trans ((nD b h3).trans ((nC b h2).trans ((kB.block b (by have := Q4.out; omega)).trans (nA b h2)))))
          have t4H : wH.heap[b4]? = some (.cells Z4 2 (0, 0)) := (nH b4 (by have := Q4.out; omega)).trans (kG.at ((nD b4 (by have := Q4.out; omega)).trans ((nC b4 (by have := Q4.out; omega)).trans tB)))
          have t5H : wH.heap[b5]? = some (.cells Z5 2 (0, 0)) := (nH b5 (by have := Q4.out; have := Q5.out; omega)).trans tG
          have kH : Keep w wH := pH w ((pD w ((pC w ((pA w K4 (by have := Q4.out; omega)).trans kB) (by have := Q4.out; omega))) (by have := Q4.out; omega)).trans kG) (by have := Q4.out; omega)
          have MH : Sm wH d := M4.same (fun k h1 h2 => trH k (by omega) (by have := Q4.out; omega) (by have := Q4.out; omega))
          have PH : Sm wH g := P4.same (fun k h1 h2 => trH k (by have := Q4.out; omega) (by have := Q4.out; omega) (by have := Q4.out; omega))
          have hAt : Calls Tryd.prog 6 #[.agg (ev nm1 (some ⟨d + 1, 0, none⟩) 1 1 64 (some ⟨b4, 0, none⟩) 64 64 (some ⟨d + 1 + 1 + 1 + 1, 0, none⟩) 1 1), .agg (ev nm1 (some ⟨g + 1, 0, none⟩) 1 1 65 (some ⟨b5, 0, none⟩) 65 65 (some ⟨g + 1 + 1 + 1 + 1, 0, none⟩) 1 1), .int .i64 5] wH fun e w' => e = .returned (.bool true) ∧ Keep wH w' := by
            have h := at_any (cf := 1) (cg := 1) (cb := 64) (cc := 65) (ct := 1) (cu := 1) (N := 64) (M := 65) wH 5 ((MH.rd (hT.keep kH)).based (n := 64) (by omega) (made_rd (by rw [hZ4]; exact t4H))) ((PH.rd (hT.keep kH)).based (n := 65) (by omega) (made_rd (by rw [hZ5]; exact t5H))) lim_outputs (lim_outputs2 _)
            rw [List.length_replicate, List.length_replicate] at h
            exact h
          clear hZ4 hZ5 MH PH trH t4H t5H
          replace sB : Hid _ := sB
          replace sG : Hid _ := sG
          replace sA : Hid _ := sA
          replace sC : Hid _ := sC
          replace sD : Hid _ := sD
          replace sH : Hid _ := sH
          obtain ⟨c0, c1', c2', c3, c4⟩ := cells5 EH
          obtain ⟨k0, k1', k2', k3', k4'⟩ := cells5 FH
          go_wp2_with (first | rw [r64] | rw [r65])
          refine hAt.mono ?_
          rintro e w40 ⟨rfl, k40⟩
          have E40 := k40.at EH
          have F40 := k40.at FH
          have K40 := kH.trans k40
          have B40 : Hid (s ≤ E ∧ s ≤ F ∧ E ≠ F ∧ E < w40.heap.size ∧ F < w40.heap.size ∧ w.heap.size = s) := ⟨by have := Q4.out; omega, by have := Q4.out; omega, by have := Q4.out; omega, lt_of_at E40, lt_of_at F40, hs⟩
          clear x0 x1 x2 x3 x4 f0 f1 f2 f3 f4 y0 y1 y2 y3 y4 h0 h1 h2 h3 h4 r64 r65 EA nA pA hwA sA hwB kB tB sB EB j0 j1 j2 j3 j4 l0 l1 l2 l3 l4 hwC EC nC sC pC FC o0 o1 o2 o3 o4 a0 a1' a2' a3 a4 hwD FD nD sD pD hwG kG tG sG FG i0 i1 i2' i3 i4 e0 e1 e2 e3 e4 hwH FH nH sH pH Q4 Q5 EH kH hAt c0 c1' c2' c3 c4 k0 k1' k2' k3' k4' M4 P4 E4 F4 K4 R4 k40
          obtain ⟨d, hd⟩ : ∃ d, w40.heap.size = d := ⟨_, rfl⟩
          go_wp2_with fail
          refine (hSm w40).mono ?_
          rw [hd]
          rintro e wa ⟨rfl, ma, za, ka⟩
          replace za : Hid _ := za
          have Ea := ka.at E40
          obtain ⟨x0, x1, x2, x3, x4⟩ := cells5 Ea
          obtain ⟨f0, f1, f2, f3, f4, -, -, -⟩ := frozen8 Ea
          obtain ⟨wb, hwb, Eb, nb, sb, pb⟩ := put5 Ea (.string nm1) (.slice (some ⟨d + 1, 0, none⟩) 1 1) (.int .i64 1) (.slice (some ⟨d + 1 + 1, 0, none⟩) 1 1) (.slice (some ⟨d + 1 + 1 + 1 + 1, 0, none⟩) 1 1)
          replace sb : Hid _ := sb
          obtain ⟨g, hg⟩ : ∃ g, wb.heap.size = g := ⟨_, rfl⟩
          go_wp2_with fail
          refine (hSm wb).mono ?_
          rw [hg]
          rintro e wc ⟨rfl, mc, zc, kc⟩
          replace zc : Hid _ := zc
          have Q : Hid (s ≤ E ∧ s ≤ F ∧ E ≠ F ∧ E < d ∧ F < d ∧ w.heap.size = s ∧ g = d + 5 ∧ wc.heap.size = d + 10) := by have h1 := za.out; have h2 := sb.out; have h3 := zc.out; have h4 := B40.out; unfold Hid; omega
          have Fc := kc.at ((nb F (by have := Q.out; omega)).trans (ka.at F40))
          clear x0 x1 x2 x3 x4 f0 f1 f2 f3 f4
          obtain ⟨x0, x1, x2, x3, x4⟩ := cells5 Fc
          obtain ⟨f0, f1, f2, f3, f4, -, -, -⟩ := frozen8 Fc
          obtain ⟨w5, hw5, F5, n5, s5, p5⟩ := put5 Fc (.string nm1) (.slice (some ⟨g + 1, 0, none⟩) 1 1) (.int .i64 1) (.slice (some ⟨g + 1 + 1, 0, none⟩) 1 1) (.slice (some ⟨g + 1 + 1 + 1 + 1, 0, none⟩) 1 1)
          have E5 := (n5 E (by have := Q.out; omega)).trans (kc.at Eb)
          have M5 : Sm w5 d := ((ma.same (w' := wb) (fun k h1 h2 => nb k (by have := Q.out; omega))).keep kc).same (fun k h1 h2 => n5 k (by have := Q.out; omega))
          have P5 : Sm w5 g := mc.same (fun k h1 h2 => n5 k (by have := Q.out; omega))
          have K5 : Keep w w5 := p5 w ((pb w (K40.trans ka) (by have := Q.out; omega)).trans kc) (by have := Q.out; omega)
          have R5 : Hid (s ≤ E ∧ s ≤ F ∧ E ≠ F ∧ E < d ∧ F < d ∧ w.heap.size = s ∧ g = d + 5 ∧ w5.heap.size = d + 10) := by have h1 := Q.out; unfold Hid; omega
          clear ma mc za zc sb Q Ea Eb Fc nb n5 pb p5 ka kc E40 F40 K40 B40 hwb s5
          obtain ⟨y0, y1, y2, y3, y4⟩ := cells5 E5
          obtain ⟨c0, c1⟩ := cells1 M5.b
          obtain ⟨wA, hwA, bA, nA, sA, pA⟩ := put1 (i := 0) M5.b (.int .i64 (-4611686018427387898))
          replace bA : wA.heap[d + 1 + 1]? = some (.cells #[.int .i64 (-4611686018427387898)] 2 (0, 0)) := by simpa using bA
          have FA := (nA F (by have := R5.out; omega)).trans F5
          obtain ⟨h0, h1, h2, h3, h4⟩ := cells5 FA
          have bgA := (nA (g + 1 + 1) (by have := R5.out; omega)).trans P5.b
          obtain ⟨l0, l1⟩ := cells1 bgA
          obtain ⟨wB, hwB, bB, nB, sB, pB⟩ := put1 (i := 0) bgA (.int .i64 4611686018427387899)
          replace bB : wB.heap[g + 1 + 1]? = some (.cells #[.int .i64 4611686018427387899] 2 (0, 0)) := by simpa using bB
          have EB := (nB E (by have := R5.out; omega)).trans ((nA E (by have := R5.out; omega)).trans E5)
          have FB := (nB F (by have := R5.out; omega)).trans FA
          have tr : ∀ b, b ≠ d + 1 + 1 → b ≠ g + 1 + 1 → wB.heap[b]? = w5.heap[b]? := fun b h1 h2 => (nB b h2).trans (nA b h1)
          have kH : Keep w wB := pB w (pA w K5 (by have := R5.out; omega)) (by have := R5.out; omega)
          have hEe := EnA.mk1 (x := -4611686018427387898) (hT.keep kH) ((tr (d + 1) (by omega) (by have := R5.out; omega)).trans M5.f) ((nB (d + 1 + 1) (by have := R5.out; omega)).trans bA) (by decide) (by simp) sts_n (sm_t ((tr (d + 1 + 1 + 1) (by omega) (by have := R5.out; omega)).trans M5.n) ((tr (d + 1 + 1 + 1 + 1) (by omega) (by have := R5.out; omega)).trans M5.t))
          have hEf := EnA.mk1 (x := 4611686018427387899) (hT.keep kH) ((tr (g + 1) (by have := R5.out; omega) (by omega)).trans P5.f) bB (by decide) (by simp) sts_n (sm_t ((tr (g + 1 + 1 + 1) (by have := R5.out; omega) (by omega)).trans P5.n) ((tr (g + 1 + 1 + 1 + 1) (by have := R5.out; omega) (by omega)).trans P5.t))
          have hAt : Calls Tryd.prog 6 #[.agg (ev nm1 (some ⟨d + 1, 0, none⟩) 1 1 1 (some ⟨d + 1 + 1, 0, none⟩) 1 1 (some ⟨d + 1 + 1 + 1 + 1, 0, none⟩) 1 1), .agg (ev nm1 (some ⟨g + 1, 0, none⟩) 1 1 1 (some ⟨g + 1 + 1, 0, none⟩) 1 1 (some ⟨g + 1 + 1 + 1 + 1, 0, none⟩) 1 1), .int .i64 31] wB fun e w' => e = .returned (.bool true) ∧ Keep wB w' := by
            have h := at_any (cf := 1) (cg := 1) (cb := 1) (cc := 1) (ct := 1) (cu := 1) (N := 1) (M := 1) wB 31 hEe hEf lim_sum lim_sum2
            exact h
          clear hEe hEf tr
          replace sA : Hid _ := sA
          replace sB : Hid _ := sB
          obtain ⟨v0, v1, v2, v3, v4⟩ := cells5 EB
          obtain ⟨k0, k1', k2', k3', k4'⟩ := cells5 FB
          go_wp2_with fail
          refine hAt.mono ?_
          rintro e w50 ⟨rfl, k50⟩
          go_wp2_with fail
          go_ret
          exact ⟨rfl, kH.trans k50⟩
end Go.Proofs.YtpogipmamciciaaDoor
