import Derived.Test.YtaogjiffnebnkaaV7
set_option linter.unusedVariables false
set_option linter.unusedSimpArgs false
namespace Go.Proofs.Ytaogjiffnebnkaa
open Go.RowKit Go.Shelf
theorem isNaN_i (x : Int) (w : World) : Calls Try.prog 90 #[.int .i64 x] w fun e w' => e = .returned (.bool false) ∧ w = w' := by
  go_enter Try.func90, Try.ntmps90
  go_wp2_with fail
  go_ret
  exact ⟨ret_bool (by simp), rfl⟩
theorem cmpI_any (x y : Int) (w : World) : Calls Try.prog 78 #[.int .i64 x, .int .i64 y] w fun e w' => e = .returned (.int .i64 (cmpQ x y)) ∧ w = w' := by
  have h1 := isNaN_i x w
  have h2 := isNaN_i y w
  by_cases hxy : x < y
  · have hv : Hid (cmpQ x y = -1) := by show _ = _; unfold cmpQ; rw [if_pos (by omega)]
    have hc : x < y := by omega
    go_enter Try.func78, Try.ntmps78
    go_wp2_with fail
    refine h1.mono ?_
    rintro e w1 ⟨rfl, rfl⟩
    go_wp2_with fail
    refine h2.mono ?_
    rintro e w1 ⟨rfl, rfl⟩
    go_wp2_with fail
    go_ret
    exact ⟨retI hv.out.symm, rfl⟩
  · have hc : ¬ x < y := by omega
    by_cases hyx : y < x
    · have hv : Hid (cmpQ x y = 1) := by show _ = _; unfold cmpQ; rw [if_neg (by omega), if_pos (by omega)]
      have hc2 : y < x := by omega
      go_enter Try.func78, Try.ntmps78
      go_wp2_with fail
      refine h1.mono ?_
      rintro e w1 ⟨rfl, rfl⟩
      go_wp2_with fail
      refine h2.mono ?_
      rintro e w1 ⟨rfl, rfl⟩
      go_wp2_with fail
      go_ret
      exact ⟨retI hv.out.symm, rfl⟩
    · obtain rfl : x = y := by omega
      have hv : Hid (cmpQ x x = 0) := by show _ = _; unfold cmpQ; rw [if_neg (by omega), if_neg (by omega)]
      clear hxy hyx hc
      go_enter Try.func78, Try.ntmps78
      go_wp2_with fail
      refine h1.mono ?_
      rintro e w1 ⟨rfl, rfl⟩
      go_wp2_with fail
      refine h2.mono ?_
      rintro e w1 ⟨rfl, rfl⟩
      go_wp2_with fail
      go_ret
      exact ⟨retI hv.out.symm, rfl⟩
/-- A list as an item: its feature and where its three rows lie. -/
structure Li where
  ft : Int
  na : Option Addr
  nl : Nat
  nc : Nat
  ca : Option Addr
  cl : Nat
  cc : Nat
  la : Option Addr
  ll : Nat
  lc : Nat
abbrev li0 : Li := ⟨0, none, 0, 0, none, 0, 0, none, 0, 0⟩
/-- Lists as cells. -/
def UL : List Li → List Value
  | [] => []
  | r :: L => .int .i64 r.ft :: .slice r.na r.nl r.nc :: .slice r.ca r.cl r.cc :: .slice r.la r.ll r.lc :: UL L
theorem UL_append : ∀ L M, UL (L ++ M) = UL L ++ UL M
  | [], _ => rfl
  | r :: L, M => by simp [UL, UL_append L M]
theorem UL_length : ∀ L, (UL L).length = L.length * 4
  | [] => rfl
  | r :: L => by simp [UL, UL_length L]; omega
theorem UL_one : ∀ L, ∀ u ∈ UL L, u.oneCell' = true
  | [], u, h => by simp [UL] at h
  | r :: L, u, h => by
    simp only [UL, List.mem_cons] at h
    rcases h with rfl | rfl | rfl | rfl | h
    all_goals first | rfl | exact UL_one L u h
theorem UL_get : ∀ (K : List Li) (j i : Nat), j < K.length → i < 4 → (UL K)[j * 4 + i]? = (UL [K.getD j li0])[i]?
  | [], j, i, h, _ => by simp at h
  | r :: K, 0, i, _, hi => by
    simp only [Nat.zero_mul, Nat.zero_add, List.getD_cons_zero]
    match i, hi with
    | 0, _ => rfl
    | 1, _ => rfl
    | 2, _ => rfl
    | 3, _ => rfl
  | r :: K, j + 1, i, h, hi => by
    have := UL_get K j i (by simpa using h) hi
    rw [show (j + 1) * 4 + i = (j * 4 + i) + 1 + 1 + 1 + 1 by omega]
    simp only [UL, List.getElem?_cons_succ, List.getD_cons_succ]
    exact this
theorem lists2_any (ft : Int) (na : Option Addr) (nl nc : Nat) (ca : Option Addr) (cl cc : Nat) (la : Option Addr) (ll lc : Nat) (w : World) :
    Calls Try.prog 57 #[.agg #[.int .i64 ft, .slice na nl nc, .slice ca cl cc, .slice la ll lc]] w fun e w' => e = .returned (.int .i64 ft) ∧ Keep w w' := by
  obtain ⟨w1, hw1, k1, x0⟩ : ∃ w1, w.alloc (Obj.cells #[.int .i64 ft, .slice na nl nc, .slice ca cl cc, .slice la ll lc] 33) = w1 ∧ Keep w w1 ∧ w1.cell? ⟨w.heap.size, 0, none⟩ = some (.int .i64 ft) := ⟨_, rfl, (Keep.refl w).alloc _, by rw [cell_of_row _ _ 0 _ 33 (0, 0) (heap_alloc_new w _)]; rfl⟩
  go_enter Try.func57, Try.ntmps57
  go_wp2_with fail
  try rw [hw1]
  try go_wp2_with fail
  go_ret
  exact ⟨rfl, k1⟩
set_option maxRecDepth 100000 in
set_option maxHeartbeats 1000000 in
/-- Two lists compared by their keys. -/
theorem cmpL_any (ft1 : Int) (na1 : Option Addr) (nl1 nc1 : Nat) (ca1 : Option Addr) (cl1 cc1 : Nat) (la1 : Option Addr) (ll1 lc1 : Nat) (ft2 : Int) (na2 : Option Addr) (nl2 nc2 : Nat) (ca2 : Option Addr) (cl2 cc2 : Nat) (la2 : Option Addr) (ll2 lc2 : Nat) (kb : Nat) (w : World) (hkb : w.cell? ⟨kb, 0, none⟩ = some (.func (.func 57) #[] #[])) :
    Calls Try.prog 77 #[.agg #[.int .i64 ft1, .slice na1 nl1 nc1, .slice ca1 cl1 cc1, .slice la1 ll1 lc1], .agg #[.int .i64 ft2, .slice na2 nl2 nc2, .slice ca2 cl2 cc2, .slice la2 ll2 lc2], .pointer (some ⟨kb, 0, none⟩)] w fun e w' => e = .returned (.int .i64 (cmpQ ft1 ft2)) ∧ Keep w w' := by
  have hA := fun wx => lists2_any ft1 na1 nl1 nc1 ca1 cl1 cc1 la1 ll1 lc1 wx
  have hB := fun wx => lists2_any ft2 na2 nl2 nc2 ca2 cl2 cc2 la2 ll2 lc2 wx
  have hC := fun wx => cmpI_any ft1 ft2 wx
  obtain ⟨w2, hw2, k2, p1, p2⟩ : ∃ w2, (w.alloc (Obj.cells #[.int .i64 ft1, .slice na1 nl1 nc1, .slice ca1 cl1 cc1, .slice la1 ll1 lc1] 33)).alloc (Obj.cells #[.int .i64 ft2, .slice na2 nl2 nc2, .slice ca2 cl2 cc2, .slice la2 ll2 lc2] 33) = w2 ∧ Keep w w2 ∧ w2.heap[w.heap.size]? = some (Obj.cells #[.int .i64 ft1, .slice na1 nl1 nc1, .slice ca1 cl1 cc1, .slice la1 ll1 lc1] 33 (0, 0)) ∧ w2.heap[w.heap.size + 1]? = some (Obj.cells #[.int .i64 ft2, .slice na2 nl2 nc2, .slice ca2 cl2 cc2, .slice la2 ll2 lc2] 33 (0, 0)) := by
    refine ⟨_, rfl, ((Keep.refl w).alloc _).alloc _, ?_, ?_⟩
    · rw [Below.heap_alloc _ _ _ (by rw [World.size_alloc]; omega)]; exact heap_alloc_new w _
    · have := heap_alloc_new (w.alloc (Obj.cells #[.int .i64 ft1, .slice na1 nl1 nc1, .slice ca1 cl1 cc1, .slice la1 ll1 lc1] 33)) (Obj.cells #[.int .i64 ft2, .slice na2 nl2 nc2, .slice ca2 cl2 cc2, .slice la2 ll2 lc2] 33)
      rw [World.size_alloc] at this
      exact this
  have x0 := cell_of_row _ _ 0 _ 33 (0, 0) p1
  have x1 := cell_of_row _ _ 1 _ 33 (0, 0) p1
  have x2 := cell_of_row _ _ 2 _ 33 (0, 0) p1
  have x3 := cell_of_row _ _ 3 _ 33 (0, 0) p1
  have y0 := cell_of_row _ _ 0 _ 33 (0, 0) p2
  have y1 := cell_of_row _ _ 1 _ 33 (0, 0) p2
  have y2 := cell_of_row _ _ 2 _ 33 (0, 0) p2
  have y3 := cell_of_row _ _ 3 _ 33 (0, 0) p2
  simp only [List.getElem?_toArray, List.getElem?_cons_zero, List.getElem?_cons_succ] at x0 x1 x2 x3 y0 y1 y2 y3
  have z := k2.cell hkb
  replace p1 : Hid _ := p1
  replace p2 : Hid _ := p2
  clear hkb
  generalize cmpQ ft1 ft2 = r at hC ⊢
  go_enter Try.func77, Try.ntmps77
  go_wp2_with fail
  try rw [hw2]
  refine region_keepQ (Keep.refl w2) (by kernel_rfl) (by kernel_rfl) ?_
  repeat
    with_reducible refine wpQuiet_step ?_
    intro K hK
    go_simp
    first
      | (with_reducible refine hK _ ?_; clear hK K)
      | (apply Exists.intro
         with_reducible refine ⟨fun wx hq => ?_, hK _ ?_⟩
         · first
             | with_reducible rfl
             | with_reducible exact (hA wx).mono fun e w'' h => ⟨h.1, hq.trans h.2⟩
             | with_reducible exact (hB wx).mono fun e w'' h => ⟨h.1, hq.trans h.2⟩
             | with_reducible exact (hC wx).mono fun e w'' h => ⟨h.1, h.2 ▸ hq⟩
             | (have x0' := hq.cell x0; have x1' := hq.cell x1; have x2' := hq.cell x2; have x3' := hq.cell x3; have y0' := hq.cell y0; have y1' := hq.cell y1; have y2' := hq.cell y2; have y3' := hq.cell y3; have z' := hq.cell z; go_simp; with_reducible rfl)
         clear hK K)
  with_reducible refine wpQuiet_nil ?_
  intro w3 k3
  go_simp
  go_wp2_with fail
  go_ret
  exact ⟨rfl, k2.trans k3⟩
end Go.Proofs.Ytaogjiffnebnkaa
