import Derived.Test.YtbchinfmdioijaaS3
set_option linter.unusedVariables false
set_option linter.unusedSimpArgs false
namespace Go.Proofs.Ytbchinfmdioijaa
open Go.RowKit Go.Shelf
attribute [local go_sem] run_store_float
/-- What Nodes holds between two rounds. -/
structure NIt (L : List Nd) (w : World) (k : Nat) (v : Value) (wr : World) (K : List (Nd × Option Addr × Nat)) : Prop where
  len : K.length = k
  eq : ∀ j, j < k → (K.getD j nt0).1 = L.getD j nd0
  own : OwnN w.heap.size wr v K
  cats : ∀ j, j < k → OwnZ 3 w.heap.size wr (.slice (K.getD j nt0).2.1 (K.getD j nt0).1.cs.length (K.getD j nt0).2.2) (K.getD j nt0).1.cs
  ne : ∀ j, j < k → ∀ b, (Value.slice (K.getD j nt0).2.1 (K.getD j nt0).1.cs.length (K.getD j nt0).2.2).ownBlock = some b → v.ownBlock ≠ some b
  kp : Keep w wr
theorem getD_snocN (K : List (Nd × Option Addr × Nat)) (r : Nd × Option Addr × Nat) (j : Nat) : (K ++ [r]).getD j nt0 = if j = K.length then r else K.getD j nt0 := by
  by_cases h : j < K.length
  · rw [if_neg (by omega)]; simp [List.getD, List.getElem?_append, h]
  · by_cases h2 : j = K.length
    · subst h2; simp [List.getD]
    · rw [if_neg h2]; simp [List.getD, List.getElem?_append, h, show ¬ j - K.length = 0 by omega]
theorem newsN (W : World) (n : Nat) (hn : W.heap.size = n) (N : Nd) (va : Option Addr) (cc : Nat) : ∀ j u, (UN [(N, va, cc)])[j]? = some u → (W.alloc (Obj.cells #[Value.int .u8 N.kd, Value.int .i64 N.vl, Value.int .i64 N.ft, Value.float .f64 N.th, Value.slice va N.cs.length cc, Value.int .u8 N.ms, Value.int .i64 N.lf, Value.int .i64 N.rt] 40)).cell? ((⟨n, 0, none⟩ : Addr).add j) = some u := by
  subst hn
  intro j u hj
  rw [Go.WideShapes.add_plain, Nat.zero_add, cell_of_row _ _ _ _ 40 (0, 0) (heap_alloc_new W _)]
  simpa [UN] using hj
theorem NIt.step {L : List Nd} {w : World} {k : Nat} {v : Value} {wr : World} {K : List (Nd × Option Addr × Nat)} (hI : NIt L w k v wr K) {N : Nd} {va : Option Addr} {cc : Nat} {W : World} (hN : L.getD k nd0 = N) (kW : Keep wr W)
    (hO : OwnZ 3 (wr.heap.size + 1) W (.slice va N.cs.length cc) N.cs) {v' : Value} {w5 : World} (hO5 : OwnN w.heap.size w5 v' (K ++ [(N, va, cc)])) (g5 : W.grownBy w5 v.ownBlock) (hv : v'.ownBlock = v.ownBlock ∨ v'.ownBlock = some W.heap.size) :
    NIt L w (k + 1) v' w5 (K ++ [(N, va, cc)]) := by
  have hlt : ∀ b, v.ownBlock = some b → w.heap.size ≤ b ∧ b < wr.heap.size := by
    intro b hb
    obtain ⟨h1, cur, hc⟩ := hI.own.block hb
    exact ⟨h1, (Array.getElem?_eq_some_iff.1 hc).1⟩
  have hC : ∀ j, j < k → ∀ b, (Value.slice (K.getD j nt0).2.1 (K.getD j nt0).1.cs.length (K.getD j nt0).2.2).ownBlock = some b → b < wr.heap.size := by
    intro j hj b hb
    obtain ⟨h1, cur, hc⟩ := (hI.cats j hj).block hb
    exact (Array.getElem?_eq_some_iff.1 hc).1
  have hN' : ∀ b, (Value.slice va N.cs.length cc).ownBlock = some b → wr.heap.size + 1 ≤ b ∧ b < W.heap.size := by
    intro b hb
    obtain ⟨h1, cur, hc⟩ := hO.block hb
    exact ⟨h1, (Array.getElem?_eq_some_iff.1 hc).1⟩
  have hle := kW.le
  have hle0 := hI.kp.le
  have hbl : ∀ b, b < W.heap.size → v.ownBlock ≠ some b → w5.heap[b]? = W.heap[b]? := fun b hb hne => g5.block b hb (fun e => hne e.symm)
  refine ⟨by rw [List.length_append, hI.len]; rfl, ?_, hO5, ?_, ?_, ?_⟩
  · intro j hj
    rw [getD_snocN, hI.len]
    by_cases e : j = k
    · rw [if_pos e, e, hN]
    · rw [if_neg e]; exact hI.eq j (by omega)
  · intro j hj
    rw [getD_snocN, hI.len]
    by_cases e : j = k
    · rw [if_pos e]
      refine (hO.mono (by omega)).same ?_
      intro b hb
      obtain ⟨h1, h2⟩ := hN' b hb
      exact hbl b h2 (fun e => by have := hlt b e; omega)
    · rw [if_neg e]
      have hj' : j < k := by omega
      refine (hI.cats j hj').same ?_
      intro b hb
      have h1 := hC j hj' b hb
      rw [hbl b (by omega) (hI.ne j hj' b hb), kW.block b h1]
  · intro j hj
    rw [getD_snocN, hI.len]
    by_cases e : j = k
    · rw [if_pos e]
      intro b hb e2
      obtain ⟨h1, h2⟩ := hN' b hb
      rcases hv with h | h
      · rw [h] at e2; have := hlt b e2; omega
      · rw [h] at e2; simp only [Option.some.injEq] at e2; omega
    · rw [if_neg e]
      have hj' : j < k := by omega
      intro b hb e2
      have h1 := hC j hj' b hb
      rcases hv with h | h
      · rw [h] at e2; exact hI.ne j hj' b hb e2
      · rw [h] at e2; simp only [Option.some.injEq] at e2; omega
  · exact Below.grown (hI.kp.trans kW) g5 (by omega) (fun b hb => (hlt b hb).1)
set_option maxRecDepth 100000 in
set_option maxHeartbeats 2000000 in
theorem rNodes_any (a : Option Addr) (c : Nat) (L : List Nd) (w : World) (hLn : L.length ≤ 1759218604441) (ha : RdN w a L) :
    Calls Try.prog 60 #[.slice a L.length c] w fun e w' => ∃ v, e = .returned v ∧ (∃ K, NIt L w L.length v w' K) ∧ Keep w w' := by
  go_enter Try.func60, Try.ntmps60
  go_wp2_with fail
  go_loopw [3, 9] (fun v iv wr => ∃ (k : Nat) (K : List (Nd × Option Addr × Nat)), k ≤ L.length ∧ iv = .int .i64 k ∧ NIt L w k v wr K) (fun _ iv _ => L.length - (intOf iv).toNat)
  case atStart => exact ⟨0, [], by omega, rfl, rfl, fun j hj => by omega, OwnN.nil _ _, fun j hj => by omega, fun j hj => by omega, Keep.refl w⟩
  case round =>
    obtain ⟨k, K, hk, rfl, hI⟩ := hrel
    by_cases hkl : k < L.length
    · have hkc : (k : Int) < (L.length : Int) := by omega
      obtain ⟨b, o, ca, cp, rfl, hnd⟩ := (ha.keep hI.kp) k hkl
      obtain ⟨N, hN⟩ : ∃ N, L.getD k nd0 = N := ⟨_, rfl⟩
      have HN : Hid (L.getD k nd0 = N) := hN
      rw [hN] at hnd
      clear hN
      have c0 := hnd.c0
      have c1 := hnd.c1
      have c2 := hnd.c2
      have c3 := hnd.c3
      have c4 := hnd.c4
      have c5 := hnd.c5
      have c6 := hnd.c6
      have c7 := hnd.c7
      obtain ⟨box, hbox⟩ : ∃ box, (Obj.cells #[Value.int .u8 N.kd, Value.int .i64 N.vl, Value.int .i64 N.ft, Value.float .f64 N.th, Value.slice ca N.cs.length cp, Value.int .u8 N.ms, Value.int .i64 N.lf, Value.int .i64 N.rt] 40) = box := ⟨_, rfl⟩
      have kb : Keep wr (wr.alloc box) := (Keep.refl wr).alloc _
      have hrd := hnd.rd.keep kb
      have hsz := hnd.sz
      rw [← hbox] at kb hrd
      clear hnd hbox
      have hbx : (wr.alloc (Obj.cells #[Value.int .u8 N.kd, Value.int .i64 N.vl, Value.int .i64 N.ft, Value.float .f64 N.th, Value.slice ca N.cs.length cp, Value.int .u8 N.ms, Value.int .i64 N.lf, Value.int .i64 N.rt] 40)).heap[wr.heap.size]? = some (Obj.cells #[Value.int .u8 N.kd, Value.int .i64 N.vl, Value.int .i64 N.ft, Value.float .f64 N.th, Value.slice ca N.cs.length cp, Value.int .u8 N.ms, Value.int .i64 N.lf, Value.int .i64 N.rt] 40 (0, 0)) := heap_alloc_new wr _
      have hbs := (Array.getElem?_eq_some_iff.1 hbx).1
      replace hbx : Hid _ := hbx
      have hKl : K.length + 1 ≤ 1759218604441 := by have := hI.len; omega
      have hB4 := hI.kp.le
      go_wp2_with (at_builtin; first | (refine wpList_copyAny rfl _ _ rfl N.cs ca cp ?_ ?_ hrd hsz ?_; rotate_left 2; intro vc w2 hO k2; obtain ⟨va, cc, rfl, hcc, hrc⟩ := hO.shape; have hb2 := (k2.block _ hbs).trans hbx.out; have fz := frozen_of_row w2 _ 4 _ 40 hb2; have d0 := cell_of_row w2 _ 0 _ 40 (0, 0) hb2; have d1 := cell_of_row w2 _ 1 _ 40 (0, 0) hb2; have d2 := cell_of_row w2 _ 2 _ 40 (0, 0) hb2; have d3 := cell_of_row w2 _ 3 _ 40 (0, 0) hb2; have d4 := cell_of_row w2 _ 4 _ 40 (0, 0) hb2; have d5 := cell_of_row w2 _ 5 _ 40 (0, 0) hb2; have d6 := cell_of_row w2 _ 6 _ 40 (0, 0) hb2; have d7 := cell_of_row w2 _ 7 _ 40 (0, 0) hb2; simp at d0 d1 d2 d3 d4 d5 d6 d7; replace hb2 : Hid _ := hb2; clear hrc c0 c1 c2 c3 c4 c5 c6 c7 hrd) | (refine wpList_appN w.heap.size _ rfl _ _ rfl K (N, va, cc) u3 ?_ (hI.own.keep (((kb.trans k2).setCell (Nat.le_refl _) _).alloc _)) (Nat.le_trans hB4 (((kb.trans k2).setCell (Nat.le_refl _) _).alloc _).le) ⟨w2.heap.size, 0, none⟩ 1 ?_ (newsN _ _ (by simp) N va cc) hKl ?_; rotate_left 2; intro v5 w5 hO5 g5 hv5))
      · go_roundw
        case rel =>
          have kW := ((kb.trans k2).setCell (p := ⟨wr.heap.size, 4, none⟩) (Nat.le_refl _) (.slice va N.cs.length cc))
          have hO1 := hO
          rw [World.size_alloc] at hO1
          have hO2 : OwnZ 3 (wr.heap.size + 1) (w2.setCell ⟨wr.heap.size, 4, none⟩ (.slice va N.cs.length cc)) (.slice va N.cs.length cc) N.cs := hO1.same (fun b hb => neq_set w2 _ _ _ b (by have := (hO1.block hb).1; omega))
          exact ⟨k + 1, K ++ [(N, va, cc)], by omega, by go_num, hI.step HN.out (kW.alloc _) (hO2.keep ((Keep.refl _).alloc _)) hO5 g5 hv5⟩
        case measure => simp [intOf]; omega
      all_goals rfl
    · have hkc : ¬ (k : Int) < (L.length : Int) := by omega
      obtain rfl : k = L.length := by omega
      go_wp2_with fail
      go_ret
      exact ⟨_, rfl, ⟨K, hI⟩, hI.kp⟩
end Go.Proofs.Ytbchinfmdioijaa
