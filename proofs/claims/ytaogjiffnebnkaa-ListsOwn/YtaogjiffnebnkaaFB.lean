import Derived.Test.YtaogjiffnebnkaaP10
import Derived.Deep.RegionHeld3
import Derived.BigQuiet
set_option linter.unusedVariables false
set_option linter.unusedSimpArgs false
namespace Go.Proofs.Ytaogjiffnebnkaa
open Go.RowKit Go.Shelf
attribute [local go_sem] run_store_float
/-- The cuts that are false. -/
def chs (C : List Ct) (x : Nat) : List Ct := C.filter (fun c => !amB c.cs x)
def fls (L C O : List Ct) (x : Nat) : List Ct := if nanB x then O else L.take (fst L x) ++ chs C x
theorem OC.base {L : List Ct} {w w0 : World} {v : Value} {wr : World} {K : List (Ct × Option Addr × Nat)} (h : OC L w v wr K) (k : Keep w0 w) : OC L w0 v wr K := by
  refine ⟨h.eq, ?_, fun r hr => ⟨(h.cats r hr).1.mono k.le, (h.cats r hr).2⟩, k.trans h.kp⟩
  refine ⟨h.own.1, ?_⟩
  rcases h.own.2 with h2 | ⟨g, cap, cur, hv, hg, r⟩
  · exact .inl h2
  · exact .inr ⟨g, cap, cur, hv, Nat.le_trans k.le hg, r⟩
theorem RdC.take {w : World} {a : Option Addr} {L : List Ct} (h : RdC w a L) (n : Nat) : RdC w a (L.take n) := by
  intro j hj
  rw [List.length_take] at hj
  obtain ⟨b, o, ca, cap, e, hc⟩ := h j (by omega)
  have : (L.take n).getD j cd0 = L.getD j cd0 := by simp [List.getD, List.getElem?_take, show j < n by omega]
  rw [this]
  exact ⟨b, o, ca, cap, e, hc⟩
theorem chs_snoc {C : List Ct} {k : Nat} (hk : k < C.length) (x : Nat) : chs (C.take (k + 1)) x = if amB (C.getD k cd0).cs x then chs (C.take k) x else chs (C.take k) x ++ [C.getD k cd0] := by
  rw [take_snoc hk]
  generalize C.getD k cd0 = N
  unfold chs
  rw [List.filter_append]
  cases h : amB N.cs x <;> simp [h]
end Go.Proofs.Ytaogjiffnebnkaa
set_option linter.unusedVariables false
set_option linter.unusedSimpArgs false
namespace Go.Proofs.Ytaogjiffnebnkaa
open Go.RowKit Go.Shelf
attribute [local go_sem] run_store_float
set_option maxRecDepth 100000 in
set_option maxHeartbeats 1000000 in
theorem First_big (F : Int) (na : Option Addr) (L : List Ct) (nc : Nat) (ca : Option Addr) (cl cc : Nat) (la : Option Addr) (ll lc : Nat) (x : Nat) (w : World) (hLn : L.length ≤ 268435456) (hr : RdC w na L) :
    Calls Try.prog 15 #[lst F na L.length nc ca cl cc la ll lc, .float .f64 x] w fun e w' => e = .returned (.int .i64 (fst L x : Nat)) ∧ Keep w w' := by
  unfold lst
  have k0 : Keep w (w.alloc (Obj.cells #[Value.int IntKind.i64 F, Value.slice na L.length nc, Value.slice ca cl cc, Value.slice la ll lc] 33)) := (Keep.refl w).alloc _
  have hr' := hr.keep k0
  go_enter Try.func15, Try.ntmps15
  go_wp2_with fail
  go_loop [9] (fun i => ∃ k : Nat, k ≤ L.length ∧ i = .int .i64 k ∧ Hid (∀ j, j < k → gtB x (L.getD j cd0).th = true)) (fun i => L.length - (intOf i).toNat)
  case atStart => exact ⟨0, by omega, rfl, by intro j hj; omega⟩
  case round =>
    obtain ⟨k, hk, rfl, hinv⟩ := hrel
    by_cases hkl : k < L.length
    · have hkc : (k : Int) < (L.length : Int) := by omega
      obtain ⟨b, o, ca', cp', rfl, hc⟩ := hr' k hkl
      have c0 := hc.c0
      clear hc
      cases he : gtB x (L.getD k cd0).th
      · have HR : Hid (fst L x = k) := take_all L k hk hinv.out (fun _ => he)
        have he' : (FloatKind.f64.format.order x (L.getD k cd0).th == some .gt) = false := he
        generalize (L.getD k cd0).th = y at *
        clear hinv he
        go_wp2_with fail
        go_ret
        exact ⟨by rw [HR.out]; rfl, k0⟩
      · have he' : (FloatKind.f64.format.order x (L.getD k cd0).th == some .gt) = true := he
        have hn : Hid (∀ j, j < k + 1 → gtB x (L.getD j cd0).th = true) := by
          intro j hj
          rcases Nat.lt_or_ge j k with h1 | h1
          · exact hinv.out j h1
          · obtain rfl : j = k := by omega
            exact he
        generalize (L.getD k cd0).th = y at *
        clear he
        go_wp2_with fail
        go_round
        case rel => exact ⟨k + 1, by omega, by go_num, hn⟩
        case measure => simp [intOf]; omega
    · have hkc : ¬ (k : Int) < (L.length : Int) := by omega
      have HR : Hid (fst L x = L.length) := by
        have e : k = L.length := by omega
        have := take_all (p := fun c => gtB x c.th) L k hk hinv.out (fun h => absurd h hkl)
        exact this.trans e
      go_wp2_with fail
      go_ret
      exact ⟨by rw [HR.out]; rfl, k0⟩
end Go.Proofs.Ytaogjiffnebnkaa
set_option linter.unusedVariables false
set_option linter.unusedSimpArgs false
namespace Go.Proofs.Ytaogjiffnebnkaa
open Go.RowKit Go.Shelf
attribute [local go_sem] run_store_float
set_option maxRecDepth 100000 in
set_option maxHeartbeats 2000000 in
theorem copies_big (a : Option Addr) (c : Nat) (L : List Ct) (w : World) (hLn : L.length ≤ 268435456) (ha : RdC w a L) :
    Calls Try.prog 41 #[.slice a L.length c] w fun e w' => ∃ v, e = .returned v ∧ ∃ K, OC L w v w' K := by
  go_enter Try.func41, Try.ntmps41
  go_wp2_with fail
  go_loopw [3, 8] (fun v iv wr => ∃ (k : Nat) (K : List (Ct × Option Addr × Nat)), k ≤ L.length ∧ iv = .int .i64 k ∧ OC (L.take k) w v wr K) (fun _ iv _ => L.length - (intOf iv).toNat)
  case atStart => exact ⟨0, [], by omega, rfl, OC.nil w⟩
  case round =>
    obtain ⟨k, K, hk, rfl, hI⟩ := hrel
    by_cases hkl : k < L.length
    · have hkc : (k : Int) < (L.length : Int) := by omega
      obtain ⟨b, o, ca, cp, rfl, hnd⟩ := (ha.keep hI.kp) k hkl
      have hst := take_snoc hkl
      have hKl : K.length + 1 ≤ 1099511627776 := by have := hI.len; rw [List.length_take] at this; omega
      generalize L.getD k cd0 = N at *
      have c0 := hnd.c0
      have c1 := hnd.c1
      have c2 := hnd.c2
      have c3 := hnd.c3
      have c4 := hnd.c4
      obtain ⟨X1, hX1, kX⟩ : ∃ X1, wr.alloc (Obj.cells #[Value.float FloatKind.f64 N.th, Value.slice ca N.cs.length cp, Value.int IntKind.i64 N.tr, Value.int IntKind.i64 N.fr, Value.int IntKind.i64 N.to] 57) = X1 ∧ Keep wr X1 := ⟨_, rfl, (Keep.refl wr).alloc _⟩
      have hC := copyOf_any N ca cp X1 (hnd.rd.keep kX) hnd.sz hnd.cp
      have hsz := hnd.sz
      have hB4 := hI.kp.le
      unfold Ct.v at hC
      replace hX1 : Hid _ := hX1
      replace hst : Hid _ := hst
      clear hnd
      go_wp2_with (first | (go_at_call 43; rw [hX1.out]; refine hC.mono ?_; rintro e w2 ⟨va, cc, rfl, hO, hcc, k2⟩) | (at_builtin; refine wpList_appC w.heap.size _ rfl _ _ rfl K (N, va, cc) u3 ?_ (hI.own.keep ((kX.trans k2).alloc _)) (Nat.le_trans hB4 ((kX.trans k2).alloc _).le) ⟨w2.heap.size, 0, none⟩ 1 ?_ (newsC _ _ (by simp) N va cc) hKl ?_; rotate_left 2; intro v5 w5 hO5 g5 hv5))
      · go_roundw
        case rel =>
          refine ⟨k + 1, K ++ [(N, va, cc)], by omega, by go_num, ?_⟩
          rw [hst.out]
          refine hI.step ((kX.trans k2).alloc _) hsz ?_ hO5 g5
          exact (hO.mono (Nat.le_trans hB4 kX.le)).keep ((Keep.refl w2).alloc _)
        case measure => simp [intOf]; omega
      all_goals rfl
    · have hkc : ¬ (k : Int) < (L.length : Int) := by omega
      obtain rfl : k = L.length := by omega
      rw [List.take_length] at hI
      go_wp2_with fail
      go_ret
      exact ⟨_, rfl, K, hI⟩
set_option maxRecDepth 100000 in
set_option maxHeartbeats 4000000 in
theorem False_big (F : Int) (na : Option Addr) (L : List Ct) (nc : Nat) (ca : Option Addr) (C : List Ct) (cc : Nat) (la : Option Addr) (O : List Ct) (lc : Nat) (x : Nat) (w : World) (hL : L.length ≤ 268435456) (hC : C.length ≤ 268435456) (hO : O.length ≤ 268435456) (hnc : L.length ≤ nc) (rn : RdC w na L) (rc : RdC w ca C) (rl : RdC w la O) :
    Calls Try.prog 20 #[lst F na L.length nc ca C.length cc la O.length lc, .float .f64 x] w fun e w' => ∃ v, e = .returned v ∧ ∃ K, OC (fls L C O x) w v w' K := by
  have hN := fun wx => IsNaN_any x wx
  have hF := fun (wx : World) (k : Keep w wx) => First_big F na L nc ca C.length cc la O.length lc x wx hL (rn.keep k)
  have hfl := fst_le L x
  have hCp := fun (wx : World) (k : Keep w wx) => copies_big na nc (L.take (fst L x)) wx (by rw [List.length_take]; omega) ((rn.keep k).take _)
  have hCl := fun (wx : World) (k : Keep w wx) => copies_big la lc O wx hO (rl.keep k)
  have htl : (L.take (fst L x)).length = fst L x := by rw [List.length_take]; omega
  rw [htl] at hCp
  unfold lst at hF ⊢
  obtain ⟨w1, hw1, k0, tb⟩ : ∃ w1, w.alloc (Obj.cells #[Value.int IntKind.i64 F, Value.slice na L.length nc, Value.slice ca C.length cc, Value.slice la O.length lc] 33) = w1 ∧ Keep w w1 ∧ w1.heap[w.heap.size]? = some (Obj.cells #[Value.int IntKind.i64 F, Value.slice na L.length nc, Value.slice ca C.length cc, Value.slice la O.length lc] 33 (0, 0)) := ⟨_, rfl, (Keep.refl w).alloc _, heap_alloc_new w _⟩
  have b0 := cell_of_row _ _ 0 _ 33 (0, 0) tb
  have b1 := cell_of_row _ _ 1 _ 33 (0, 0) tb
  have b2 := cell_of_row _ _ 2 _ 33 (0, 0) tb
  have b3 := cell_of_row _ _ 3 _ 33 (0, 0) tb
  simp only [List.getElem?_toArray, List.getElem?_cons_zero, List.getElem?_cons_succ] at b0 b1 b2 b3
  replace hw1 : Hid _ := hw1
  clear tb
  cases hn : nanB x
  · have HR : Hid (fls L C O x = L.take (fst L x) ++ chs C x) := by show _ = _; unfold fls; rw [hn]; rfl
    rw [hn] at hN
    generalize hf : fst L x = f at *
    have hfn : f ≤ nc := by omega
    generalize hTL : L.take f = TL at *
    go_enter Try.func20, Try.ntmps20
    go_wp2_with (go_at_call 39; rw [hw1.out]; refine (hN _).mono ?_; rintro e w2 ⟨rfl, hq⟩; rw [hq]; clear hq w2)
    have KD := (Keep.refl w1).drew
    have T0 := mk5 KD (KD.cell b0) (KD.cell b1) (KD.cell b2) (KD.cell b3)
    have hCp' := hCp
    clear hCl hN
    go_region_held3 (fun wx => Keep w1 wx ∧ wx.cell? ⟨w.heap.size, 0, none⟩ = some (Value.int IntKind.i64 F) ∧ wx.cell? ⟨w.heap.size, 1, none⟩ = some (Value.slice na L.length nc) ∧ wx.cell? ⟨w.heap.size, 2, none⟩ = some (Value.slice ca C.length cc) ∧ wx.cell? ⟨w.heap.size, 3, none⟩ = some (Value.slice la O.length lc)) (first | with_reducible exact T0 | with_reducible exact T2 | with_reducible exact T1) (first | (go_at_call 41; refine (hCp _ (k0.trans K1)).mono ?_; rintro e w3 ⟨v, rfl, K, hOC⟩; have K2 := K1.trans hOC.kp; have T2 := mk5 K2 (K2.cell b0) (K2.cell b1) (K2.cell b2) (K2.cell b3)) | (go_at_call 15; refine (hF _ (k0.trans KD)).mono ?_; rintro e w2 ⟨rfl, j1⟩; have K1 := KD.trans j1; have T1 := mk5 K1 (K1.cell b0) (K1.cell b1) (K1.cell b2) (K1.cell b3)))
    go_simp
    have hOC1 := hOC.base K1
    have b2' := K2.cell b2
    have hTn : TL.length ≤ 268435456 := by rw [htl]; omega
    clear T0 T1 T2 b0 b1 b2 b3 hCp hCp' hF hOC
    go_wp2_with fail
    go_loopw [5, 23] (fun v iv wr => ∃ (k : Nat) (K : List (Ct × Option Addr × Nat)), k ≤ C.length ∧ iv = .int .i64 k ∧ OC (TL ++ chs (C.take k) x) w1 v wr K) (fun _ iv _ => C.length - (intOf iv).toNat)
    case atStart => exact ⟨0, K, by omega, rfl, by simpa [chs] using hOC1⟩
    case round =>
      obtain ⟨k, K', hk, rfl, hI⟩ := hrel
      by_cases hkl : k < C.length
      · have hkc : (k : Int) < (C.length : Int) := by omega
        obtain ⟨b, o, ca', cp', rfl, hnd⟩ := (rc.keep (k0.trans hI.kp)) k hkl
        have hst := chs_snoc hkl x
        have hKl : K'.length + 1 ≤ 1099511627776 := by
          have h1 := hI.len
          have h2 : (chs (C.take k) x).length ≤ k := by
            unfold chs
            exact Nat.le_trans (List.length_filter_le _ _) (by rw [List.length_take]; omega)
          rw [List.length_append] at h1
          omega
        generalize C.getD k cd0 = N at *
        have c0 := hnd.c0
        have c1 := hnd.c1
        have c2 := hnd.c2
        have c3 := hnd.c3
        have c4 := hnd.c4
        obtain ⟨X1, hX1, kX, tX⟩ : ∃ X1, wr.alloc (Obj.cells #[Value.float FloatKind.f64 N.th, Value.slice ca' N.cs.length cp', Value.int IntKind.i64 N.tr, Value.int IntKind.i64 N.fr, Value.int IntKind.i64 N.to] 57) = X1 ∧ Keep wr X1 ∧ X1.heap[wr.heap.size]? = some (Obj.cells #[Value.float FloatKind.f64 N.th, Value.slice ca' N.cs.length cp', Value.int IntKind.i64 N.tr, Value.int IntKind.i64 N.fr, Value.int IntKind.i64 N.to] 57 (0, 0)) := ⟨_, rfl, (Keep.refl wr).alloc _, heap_alloc_new wr _⟩
        have hA := isAmong_any ca' cp' N.cs x X1 hnd.sz (hnd.rd.keep kX)
        have hCo := fun (wx : World) (k : Keep X1 wx) => copyOf_any N ca' cp' wx ((hnd.rd.keep kX).keep k) hnd.sz hnd.cp
        have y0 := cell_of_row _ _ 0 _ 57 (0, 0) tX
        have y1 := cell_of_row _ _ 1 _ 57 (0, 0) tX
        have y2 := cell_of_row _ _ 2 _ 57 (0, 0) tX
        have y3 := cell_of_row _ _ 3 _ 57 (0, 0) tX
        have y4 := cell_of_row _ _ 4 _ 57 (0, 0) tX
        simp only [List.getElem?_toArray, List.getElem?_cons_zero, List.getElem?_cons_succ] at y0 y1 y2 y3 y4
        have hsz := hnd.sz
        have hB4 := hI.kp.le
        unfold Ct.v at hCo
        replace hX1 : Hid _ := hX1
        clear hnd tX
        cases ham : amB N.cs x
        · rw [ham] at hA
          have HS : Hid (chs (C.take (k + 1)) x = chs (C.take k) x ++ [N]) := by show _ = _; rw [hst, ham]; rfl
          clear hst ham
          go_wp2_with (first | (go_at_call 42; rw [hX1.out]; refine hA.mono ?_; rintro e w2 ⟨rfl, k2⟩; have y0 := k2.cell y0; have y1 := k2.cell y1; have y2 := k2.cell y2; have y3 := k2.cell y3; have y4 := k2.cell y4) | (go_at_call 43; refine (hCo _ k2).mono ?_; rintro e w4 ⟨va, c4', rfl, hOv, hcc, k4⟩) | (at_builtin; refine wpList_appC w1.heap.size _ rfl _ _ rfl K' (N, va, c4') u5 ?_ (hI.own.keep ((kX.trans (k2.trans k4)).alloc _)) (Nat.le_trans hB4 ((kX.trans (k2.trans k4)).alloc _).le) ⟨w4.heap.size, 0, none⟩ 1 ?_ (newsC _ _ (by simp) N va c4') hKl ?_; rotate_left 2; intro v5 w5 hO5 g5 hv5))
          all_goals first
            | rfl
            | (go_roundw
               case rel =>
                 refine ⟨k + 1, K' ++ [(N, va, c4')], by omega, by go_num, ?_⟩
                 rw [HS.out, ← List.append_assoc]
                 exact hI.step ((kX.trans (k2.trans k4)).alloc _) hsz ((hOv.mono (Nat.le_trans hB4 (kX.trans k2).le)).keep ((Keep.refl w4).alloc _)) hO5 g5
               case measure => simp [intOf]; omega)
        · rw [ham] at hA
          have HS : Hid (chs (C.take (k + 1)) x = chs (C.take k) x) := by show _ = _; rw [hst, ham]; rfl
          clear hst ham
          go_wp2_with (go_at_call 42; rw [hX1.out]; refine hA.mono ?_; rintro e w2 ⟨rfl, k2⟩)
          go_roundw
          case rel => exact ⟨k + 1, K', by omega, by go_num, by rw [HS.out]; exact hI.keep (kX.trans k2)⟩
          case measure => simp [intOf]; omega
      · have hkc : ¬ (k : Int) < (C.length : Int) := by omega
        obtain rfl : k = C.length := by omega
        rw [List.take_length] at hI
        go_wp2_with fail
        go_ret
        exact ⟨_, rfl, K', by rw [HR.out]; exact hI.base k0⟩
  · have HR : Hid (fls L C O x = O) := by show _ = _; unfold fls; rw [hn]; rfl
    rw [hn] at hN
    go_enter Try.func20, Try.ntmps20
    go_wp2_with (first | (go_at_call 39; rw [hw1.out]; refine (hN _).mono ?_; rintro e w2 ⟨rfl, hq⟩; rw [hq]; clear hq w2) | (go_at_call 41; refine (hCl _ k0).mono ?_; rintro e w3 ⟨v, rfl, K, hOC⟩))
    go_ret
    exact ⟨_, rfl, K, by rw [HR.out]; exact hOC.base k0⟩
end Go.Proofs.Ytaogjiffnebnkaa
