import Derived.Test.YtaogjiffnebnkaaProg
import Derived.Test.YtaogjiffnebnkaaP4
import Derived.Test.YtaogjiffnebnkaaRI
import Derived.WalkKit
import Derived.WalkSpells
import Derived.WalkLawsBesides
import Derived.Deep.Draws
import Derived.Deep.QuietTactic
import Derived.BigQuiet
import Derived.Laws.Externs
import Derived.Laws.CopyOwn
import Derived.RangeFuncBox
import Derived.RangeFuncLeaves
import Derived.RangeFuncCalls
import Derived.RangeFuncRecord
import Derived.Below
import Derived.Shelf.Abstract
import Derived.OwnWalkIn
import Derived.TacticsInMore
import Derived.LoopNIn
import Derived.LoopIn
import Derived.Sort.LoopGhostIn
import Derived.Deep.RegionLaw
import Derived.Deep.RegionWith
import Derived.Deep.RegionHeld3
import Derived.Stop.RegionWithIn
import Derived.RegionTactic
import Derived.Orders
import Derived.OrdersIn
import Derived.RegionIn
set_option linter.unusedVariables false
set_option linter.unusedSimpArgs false
namespace Go.Proofs.Ytaogjiffnebnkaa
open Go.RowKit Go.Shelf
attribute [local go_sem] run_store_float
/-- Nodes as cells. -/
def UN : List (Nd × Option Addr × Nat) → List Value
  | [] => []
  | r :: L => .int .u8 r.1.kd :: .int .i64 r.1.vl :: .int .i64 r.1.ft :: .float .f64 r.1.th :: .slice r.2.1 r.1.cs.length r.2.2 :: .int .u8 r.1.ms :: .int .i64 r.1.lf :: .int .i64 r.1.rt :: UN L
theorem UN_append : ∀ L M, UN (L ++ M) = UN L ++ UN M
  | [], _ => rfl
  | r :: L, M => by simp [UN, UN_append L M]
theorem UN_length : ∀ L, (UN L).length = L.length * 8
  | [] => rfl
  | r :: L => by simp [UN, UN_length L]; omega
theorem UN_one : ∀ L, ∀ u ∈ UN L, u.oneCell' = true
  | [], u, h => by simp [UN] at h
  | r :: L, u, h => by
    simp only [UN, List.mem_cons] at h
    rcases h with rfl | rfl | rfl | rfl | rfl | rfl | rfl | rfl | h
    all_goals first | rfl | exact UN_one L u h
abbrev nt0 : Nd × Option Addr × Nat := (nd0, none, 0)
theorem UN_get : ∀ (K : List (Nd × Option Addr × Nat)) (j i : Nat), j < K.length → i < 8 → (UN K)[j * 8 + i]? = (UN [K.getD j nt0])[i]?
  | [], j, i, h, _ => by simp at h
  | r :: K, 0, i, _, hi => by
    simp only [Nat.zero_mul, Nat.zero_add, List.getD_cons_zero]
    match i, hi with
    | 0, _ => rfl
    | 1, _ => rfl
    | 2, _ => rfl
    | 3, _ => rfl
    | 4, _ => rfl
    | 5, _ => rfl
    | 6, _ => rfl
    | 7, _ => rfl
  | r :: K, j + 1, i, h, hi => by
    have := UN_get K j i (by simpa using h) hi
    rw [show (j + 1) * 8 + i = (j * 8 + i) + 1 + 1 + 1 + 1 + 1 + 1 + 1 + 1 by omega]
    simp only [UN, List.getElem?_cons_succ, List.getD_cons_succ]
    exact this
def OwnN (B : Nat) (w : World) (v : Value) (K : List (Nd × Option Addr × Nat)) : Prop := w.ownsRow B 83 8 v K.length (UN K)
theorem OwnN.nil (B : Nat) (w : World) : OwnN B w (.slice none 0 0) [] := ⟨rfl, .inl ⟨rfl, rfl⟩⟩
theorem OwnN.same {B : Nat} {w w' : World} {v : Value} {K : List (Nd × Option Addr × Nat)} (h : OwnN B w v K) (k : ∀ b, v.ownBlock = some b → w'.heap[b]? = w.heap[b]?) : OwnN B w' v K := by
  refine ⟨h.1, ?_⟩
  rcases h.2 with h2 | ⟨g, cap, cur, hv, hg, hh, r⟩
  · exact .inl h2
  · exact .inr ⟨g, cap, cur, hv, hg, by rw [k g (by rw [hv]; rfl)]; exact hh, r⟩
theorem OwnN.block {B : Nat} {w : World} {v : Value} {K : List (Nd × Option Addr × Nat)} (h : OwnN B w v K) {b : Nat} (hb : v.ownBlock = some b) : B ≤ b ∧ ∃ cur, w.heap[b]? = some (.cells cur 83 (0, 0)) := by
  rcases h.2 with ⟨h1, _⟩ | ⟨g, cap, cur, hv, hg, hh, r⟩
  · rw [h1] at hb; cases hb
  · rw [hv] at hb
    have hb : some g = some b := hb
    simp only [Option.some.injEq] at hb
    subst hb
    exact ⟨hg, cur, hh⟩
theorem OwnN.keep {B : Nat} {w w' : World} {v : Value} {K : List (Nd × Option Addr × Nat)} (h : OwnN B w v K) (k : Keep w w') : OwnN B w' v K :=
  h.same (fun b hb => by obtain ⟨_, cur, hh⟩ := h.block hb; exact k.block b (Array.getElem?_eq_some_iff.1 hh).1)
theorem OwnN.shape {B : Nat} {w : World} {v : Value} {K : List (Nd × Option Addr × Nat)} (h : OwnN B w v K) : ∃ a c, v = .slice a K.length c ∧ K.length ≤ c ∧ ∀ j, j < K.length → ∃ b, a = some ⟨b, 0, none⟩ ∧ ∀ i u, i < 8 → (UN [K.getD j nt0])[i]? = some u → w.cell? ⟨b, j * 8 + i, none⟩ = some u := by
  rcases h.2 with ⟨h1, h2⟩ | ⟨g, cap, cur, hv, hg, hh, h1, h2, h3, h4⟩
  · exact ⟨none, 0, by rw [h1, h2], by omega, fun j hj => by omega⟩
  · refine ⟨some ⟨g, 0, none⟩, cap, hv, h1, ?_⟩
    intro j hj
    refine ⟨g, rfl, ?_⟩
    intro i u hi hu
    have e1 : cur.toList[j * 8 + i]? = (UN K)[j * 8 + i]? := by rw [← h4, List.getElem?_take, if_pos (by omega)]
    rw [cell_of_row w g _ cur 83 (0, 0) hh, ← hu, ← UN_get K j i hj hi, ← e1]; simp
theorem i40 : (Try.prog.info? 83).map (fun i => (i.zero, i.size, i.bytes)) = some (some (.agg #[.int .u8 0, .int .i64 0, .int .i64 0, .float .f64 0, .slice none 0 0, .int .u8 0, .int .i64 0, .int .i64 0]), 8, 80) := by kernel_rfl
theorem appN_sep (B : Nat) (w : World) (ty : Nat) (v : Value) (l : List (Nd × Option Addr × Nat)) (y : Nd × Option Addr × Nat) (hown : OwnN B w v l) (hB : B ≤ w.heap.size) (ad : Addr) (c : Nat) (hnews : ∀ j u, (UN [y])[j]? = some u → w.cell? (ad.add j) = some u) (hlen : l.length + 1 ≤ 1759218604441) :
    ∃ v' w', (Builtin.append_ #[52, 52] ty #[v, .slice (some ad) 1 c]).run Try.prog w = .ok v' w' ∧ OwnN B w' v' (l ++ [y]) ∧ w.grownBy w' v.ownBlock ∧ (v'.ownBlock = v.ownBlock ∨ v'.ownBlock = some w.heap.size) := by
  obtain ⟨i0, hi, hz0, hz1, hz2⟩ := info_parts i40
  have h1 : ∀ u ∈ UN [y], u.oneCell' = true := UN_one _
  have hl : (UN [y]).length = 1 * 8 := by rw [UN_length]; rfl
  obtain ⟨v', w', hr, h2, h3, -⟩ := run_append_own (P := Try.prog) w B 52 ty 83 i0 _ 8 80 Try.underlying52 hi hz0 hz1 hz2 rfl (by decide) v _ _ hown ad 1 c (UN [y]) hl hnews h1 (by simp only [maxLen]; omega) (by omega) hB
  refine ⟨v', w', hr, ?_, h3, ?_⟩
  · unfold OwnN; rw [List.length_append, UN_append]; exact h2
  rcases hown.2 with ⟨rfl, hn⟩ | ⟨g, cap, cur, rfl, hbg, hg, hnc, hcm, hcs, htake⟩
  · have e := run_append_nil (P := Try.prog) w 52 ty 83 i0 _ Try.underlying52 hi hz0 ad 1 c (UN [y]) (by rw [hz1]; exact hl) hnews (by omega) (by omega) (by rw [hz2]; omega)
    rw [hr] at e
    simp only [Result.ok.injEq] at e
    rw [e.1]
    exact .inr rfl
  · by_cases hroom : l.length + 1 ≤ cap
    · have e := run_append_room (P := Try.prog) w 52 ty 83 i0 Try.underlying52 hi g l.length cap cur hg ad 1 c (UN [y]) (by rw [hz1]; exact hl) hnews h1 hroom (by rw [hz1, UN_length]; simp; omega)
      rw [hr] at e
      simp only [Result.ok.injEq] at e
      rw [e.1]
      exact .inl rfl
    · have holds : ∀ j u, (UN l)[j]? = some u → w.cell? ((⟨g, 0, none⟩ : Addr).add j) = some u := World.ownsRow.cells (v := .slice (some ⟨g, 0, none⟩) l.length cap) hown (g := g) rfl
      have e := run_append_grow (P := Try.prog) w 52 ty 83 i0 _ Try.underlying52 hi hz0 ⟨g, 0, none⟩ l.length cap (UN l) (by rw [hz1, UN_length]) holds ad 1 c (UN [y]) (by rw [hz1]; exact hl) hnews (by omega) (by omega) (growslice_fits (by omega) (by rw [hz2]; omega))
      rw [hr] at e
      simp only [Result.ok.injEq] at e
      rw [e.1]
      exact .inr rfl
/-- append(l, node). -/
theorem wpList_appN (B : Nat) (w : World) {ops : Array Oper} {rest : List Oper} {o : Oper} {a : Act} {Q : Exit → Act → World → Prop} (hgd : o.guard = none) (s x : Operand)
    (hop : o.op = .call { callee := .builtin .append, args := #[s, x], argTypes := #[52, 52] }) (l : List (Nd × Option Addr × Nat)) (y : Nd × Option Addr × Nat) (v : Value) (hs : a.eval s = v) (hown : OwnN B w v l) (hB : B ≤ w.heap.size) (ad : Addr) (c : Nat) (hx : a.eval x = .slice (some ad) 1 c)
    (hnews : ∀ j u, (UN [y])[j]? = some u → w.cell? (ad.add j) = some u) (hlen : l.length + 1 ≤ 1759218604441)
    (hK : ∀ v' w', OwnN B w' v' (l ++ [y]) → w.grownBy w' v.ownBlock → (v'.ownBlock = v.ownBlock ∨ v'.ownBlock = some w.heap.size) → wpList Try.prog ops Q rest (a.put o.dst v') w') :
    wpList Try.prog ops Q (o :: rest) a w := by
  refine wpList_plain hgd fun K hK' => ?_
  obtain ⟨v', w', hrun, r1, r2, r3⟩ := appN_sep B w o.type v l y hown hB ad c hnews hlen
  unfold Oper.wp
  simp [execOp, hop, resolve, invoke, builtin, hs, hx, hrun, Result.andThen]
  exact hK' _ _ (hK v' w' r1 r2 r3)
end Go.Proofs.Ytaogjiffnebnkaa
set_option linter.unusedVariables false
set_option linter.unusedSimpArgs false
namespace Go.Proofs.Ytaogjiffnebnkaa
open Go.RowKit Go.Shelf
attribute [local go_sem] run_store_float
/-- What Nodes holds between two rounds. -/
structure NIt (L : List Nd) (w : World) (k : Nat) (v : Value) (wr : World) (K : List (Nd × Option Addr × Nat)) : Prop where
  len : K.length = k
  eq : ∀ j, j < k → (K.getD j nt0).1 = L.getD j nd0
  own : OwnN w.heap.size wr v K
  cats : ∀ j, j < k → OwnZ 3 w.heap.size wr (.slice (K.getD j nt0).2.1 (K.getD j nt0).1.cs.length (K.getD j nt0).2.2) (K.getD j nt0).1.cs
  ne : ∀ j, j < k → ∀ b, (Value.slice (K.getD j nt0).2.1 (K.getD j nt0).1.cs.length (K.getD j nt0).2.2).ownBlock = some b → v.ownBlock ≠ some b
  kp : Keep w wr
theorem getD_snocN (K : List (Nd × Option Addr × Nat)) (r : Nd × Option Addr × Nat) (j : Nat) : (K ++ [r]).getD j nt0 = if j = K.length then r else K.getD j nt0 := by
  by_cases h : j < K.length
  · rw [if_neg (by omega)]; simp [List.getD, List.getElem?_append, h]
  · by_cases h2 : j = K.length
    · subst h2; simp [List.getD]
    · rw [if_neg h2]; simp [List.getD, List.getElem?_append, h, show ¬ j - K.length = 0 by omega]
theorem newsN (W : World) (n : Nat) (hn : W.heap.size = n) (N : Nd) (va : Option Addr) (cc : Nat) : ∀ j u, (UN [(N, va, cc)])[j]? = some u → (W.alloc (Obj.cells #[Value.int .u8 N.kd, Value.int .i64 N.vl, Value.int .i64 N.ft, Value.float .f64 N.th, Value.slice va N.cs.length cc, Value.int .u8 N.ms, Value.int .i64 N.lf, Value.int .i64 N.rt] 83)).cell? ((⟨n, 0, none⟩ : Addr).add j) = some u := by
  subst hn
  intro j u hj
  rw [Go.WideShapes.add_plain, Nat.zero_add, cell_of_row _ _ _ _ 83 (0, 0) (heap_alloc_new W _)]
  simpa [UN] using hj
theorem NIt.step {L : List Nd} {w : World} {k : Nat} {v : Value} {wr : World} {K : List (Nd × Option Addr × Nat)} (hI : NIt L w k v wr K) {N : Nd} {va : Option Addr} {cc : Nat} {W : World} (hN : L.getD k nd0 = N) (kW : Keep wr W)
    (hO : OwnZ 3 (wr.heap.size + 1) W (.slice va N.cs.length cc) N.cs) {v' : Value} {w5 : World} (hO5 : OwnN w.heap.size w5 v' (K ++ [(N, va, cc)])) (g5 : W.grownBy w5 v.ownBlock) (hv : v'.ownBlock = v.ownBlock ∨ v'.ownBlock = some W.heap.size) :
    NIt L w (k + 1) v' w5 (K ++ [(N, va, cc)]) := by
  have hlt : ∀ b, v.ownBlock = some b → w.heap.size ≤ b ∧ b < wr.heap.size := by
    intro b hb
    obtain ⟨h1, cur, hc⟩ := hI.own.block hb
    exact ⟨h1, (Array.getElem?_eq_some_iff.1 hc).1⟩
  have hC : ∀ j, j < k → ∀ b, (Value.slice (K.getD j nt0).2.1 (K.getD j nt0).1.cs.length (K.getD j nt0).2.2).ownBlock = some b → b < wr.heap.size := by
    intro j hj b hb
    obtain ⟨h1, cur, hc⟩ := (hI.cats j hj).block hb
    exact (Array.getElem?_eq_some_iff.1 hc).1
  have hN' : ∀ b, (Value.slice va N.cs.length cc).ownBlock = some b → wr.heap.size + 1 ≤ b ∧ b < W.heap.size := by
    intro b hb
    obtain ⟨h1, cur, hc⟩ := hO.block hb
    exact ⟨h1, (Array.getElem?_eq_some_iff.1 hc).1⟩
  have hle := kW.le
  have hle0 := hI.kp.le
  have hbl : ∀ b, b < W.heap.size → v.ownBlock ≠ some b → w5.heap[b]? = W.heap[b]? := fun b hb hne => g5.block b hb (fun e => hne e.symm)
  refine ⟨by rw [List.length_append, hI.len]; rfl, ?_, hO5, ?_, ?_, ?_⟩
  · intro j hj
    rw [getD_snocN, hI.len]
    by_cases e : j = k
    · rw [if_pos e, e, hN]
    · rw [if_neg e]; exact hI.eq j (by omega)
  · intro j hj
    rw [getD_snocN, hI.len]
    by_cases e : j = k
    · rw [if_pos e]
      refine (hO.mono (by omega)).same ?_
      intro b hb
      obtain ⟨h1, h2⟩ := hN' b hb
      exact hbl b h2 (fun e => by have := hlt b e; omega)
    · rw [if_neg e]
      have hj' : j < k := by omega
      refine (hI.cats j hj').same ?_
      intro b hb
      have h1 := hC j hj' b hb
      rw [hbl b (by omega) (hI.ne j hj' b hb), kW.block b h1]
  · intro j hj
    rw [getD_snocN, hI.len]
    by_cases e : j = k
    · rw [if_pos e]
      intro b hb e2
      obtain ⟨h1, h2⟩ := hN' b hb
      rcases hv with h | h
      · rw [h] at e2; have := hlt b e2; omega
      · rw [h] at e2; simp only [Option.some.injEq] at e2; omega
    · rw [if_neg e]
      have hj' : j < k := by omega
      intro b hb e2
      have h1 := hC j hj' b hb
      rcases hv with h | h
      · rw [h] at e2; exact hI.ne j hj' b hb e2
      · rw [h] at e2; simp only [Option.some.injEq] at e2; omega
  · exact Below.grown (hI.kp.trans kW) g5 (by omega) (fun b hb => (hlt b hb).1)
set_option maxRecDepth 100000 in
set_option maxHeartbeats 2000000 in
theorem rNodes_any (a : Option Addr) (c : Nat) (L : List Nd) (w : World) (hLn : L.length ≤ 1759218604441) (ha : RdN w a L) :
    Calls Try.prog 50 #[.slice a L.length c] w fun e w' => ∃ v, e = .returned v ∧ (∃ K, NIt L w L.length v w' K) ∧ Keep w w' := by
  go_enter Try.func50, Try.ntmps50
  go_wp2_with fail
  go_loopw [3, 9] (fun v iv wr => ∃ (k : Nat) (K : List (Nd × Option Addr × Nat)), k ≤ L.length ∧ iv = .int .i64 k ∧ NIt L w k v wr K) (fun _ iv _ => L.length - (intOf iv).toNat)
  case atStart => exact ⟨0, [], by omega, rfl, rfl, fun j hj => by omega, OwnN.nil _ _, fun j hj => by omega, fun j hj => by omega, Keep.refl w⟩
  case round =>
    obtain ⟨k, K, hk, rfl, hI⟩ := hrel
    by_cases hkl : k < L.length
    · have hkc : (k : Int) < (L.length : Int) := by omega
      obtain ⟨b, o, ca, cp, rfl, hnd⟩ := (ha.keep hI.kp) k hkl
      obtain ⟨N, hN⟩ : ∃ N, L.getD k nd0 = N := ⟨_, rfl⟩
      have HN : Hid (L.getD k nd0 = N) := hN
      rw [hN] at hnd
      clear hN
      have c0 := hnd.c0
      have c1 := hnd.c1
      have c2 := hnd.c2
      have c3 := hnd.c3
      have c4 := hnd.c4
      have c5 := hnd.c5
      have c6 := hnd.c6
      have c7 := hnd.c7
      obtain ⟨box, hbox⟩ : ∃ box, (Obj.cells #[Value.int .u8 N.kd, Value.int .i64 N.vl, Value.int .i64 N.ft, Value.float .f64 N.th, Value.slice ca N.cs.length cp, Value.int .u8 N.ms, Value.int .i64 N.lf, Value.int .i64 N.rt] 83) = box := ⟨_, rfl⟩
      have kb : Keep wr (wr.alloc box) := (Keep.refl wr).alloc _
      have hrd := hnd.rd.keep kb
      have hsz := hnd.sz
      rw [← hbox] at kb hrd
      clear hnd hbox
      have hbx : (wr.alloc (Obj.cells #[Value.int .u8 N.kd, Value.int .i64 N.vl, Value.int .i64 N.ft, Value.float .f64 N.th, Value.slice ca N.cs.length cp, Value.int .u8 N.ms, Value.int .i64 N.lf, Value.int .i64 N.rt] 83)).heap[wr.heap.size]? = some (Obj.cells #[Value.int .u8 N.kd, Value.int .i64 N.vl, Value.int .i64 N.ft, Value.float .f64 N.th, Value.slice ca N.cs.length cp, Value.int .u8 N.ms, Value.int .i64 N.lf, Value.int .i64 N.rt] 83 (0, 0)) := heap_alloc_new wr _
      have hbs := (Array.getElem?_eq_some_iff.1 hbx).1
      replace hbx : Hid _ := hbx
      have hKl : K.length + 1 ≤ 1759218604441 := by have := hI.len; omega
      have hB4 := hI.kp.le
      go_wp2_with (at_builtin; first | (refine wpList_copyAny rfl _ _ rfl N.cs ca cp ?_ ?_ hrd hsz ?_; rotate_left 2; intro vc w2 hO k2; obtain ⟨va, cc, rfl, hcc, hrc⟩ := hO.shape; have hb2 := (k2.block _ hbs).trans hbx.out; have fz := frozen_of_row w2 _ 4 _ 83 hb2; have d0 := cell_of_row w2 _ 0 _ 83 (0, 0) hb2; have d1 := cell_of_row w2 _ 1 _ 83 (0, 0) hb2; have d2 := cell_of_row w2 _ 2 _ 83 (0, 0) hb2; have d3 := cell_of_row w2 _ 3 _ 83 (0, 0) hb2; have d4 := cell_of_row w2 _ 4 _ 83 (0, 0) hb2; have d5 := cell_of_row w2 _ 5 _ 83 (0, 0) hb2; have d6 := cell_of_row w2 _ 6 _ 83 (0, 0) hb2; have d7 := cell_of_row w2 _ 7 _ 83 (0, 0) hb2; simp at d0 d1 d2 d3 d4 d5 d6 d7; replace hb2 : Hid _ := hb2; clear hrc c0 c1 c2 c3 c4 c5 c6 c7 hrd) | (refine wpList_appN w.heap.size _ rfl _ _ rfl K (N, va, cc) u3 ?_ (hI.own.keep (((kb.trans k2).setCell (Nat.le_refl _) _).alloc _)) (Nat.le_trans hB4 (((kb.trans k2).setCell (Nat.le_refl _) _).alloc _).le) ⟨w2.heap.size, 0, none⟩ 1 ?_ (newsN _ _ (by simp) N va cc) hKl ?_; rotate_left 2; intro v5 w5 hO5 g5 hv5))
      · go_roundw
        case rel =>
          have kW := ((kb.trans k2).setCell (p := ⟨wr.heap.size, 4, none⟩) (Nat.le_refl _) (.slice va N.cs.length cc))
          have hO1 := hO
          rw [World.size_alloc] at hO1
          have hO2 : OwnZ 3 (wr.heap.size + 1) (w2.setCell ⟨wr.heap.size, 4, none⟩ (.slice va N.cs.length cc)) (.slice va N.cs.length cc) N.cs := hO1.same (fun b hb => neq_set w2 _ _ _ b (by have := (hO1.block hb).1; omega))
          exact ⟨k + 1, K ++ [(N, va, cc)], by omega, by go_num, hI.step HN.out (kW.alloc _) (hO2.keep ((Keep.refl _).alloc _)) hO5 g5 hv5⟩
        case measure => simp [intOf]; omega
      all_goals rfl
    · have hkc : ¬ (k : Int) < (L.length : Int) := by omega
      obtain rfl : k = L.length := by omega
      go_wp2_with fail
      go_ret
      exact ⟨_, rfl, ⟨K, hI⟩, hI.kp⟩
end Go.Proofs.Ytaogjiffnebnkaa
set_option linter.unusedVariables false
set_option linter.unusedSimpArgs false
namespace Go.Proofs.Ytaogjiffnebnkaa
open Go.RowKit Go.Shelf
theorem i2 : (Try.prog.info? 2).map (fun i => (i.zero, i.size, i.bytes)) = some (some (.int .i64 0), 1, 8) := by kernel_rfl
/-- append(nil, l...). -/
theorem wpList_copyZ {w : World} {ops : Array Oper} {rest : List Oper} {o : Oper} {a : Act} {Q : Exit → Act → World → Prop} (hgd : o.guard = none) (s x : Operand)
    (ho : o.op = .call { callee := .builtin .append, args := #[s, x], argTypes := #[69, 69] }) (l : List Int) (ad : Addr) (c : Nat) (hs : a.eval s = .slice none 0 0)
    (hx : a.eval x = .slice (some ad) l.length c) (hr : RdI w (some ad) l) (hlen : l.length ≤ 17592186044416)
    (hK : ∀ v w1, OwnZ 2 w.heap.size w1 v l → Keep w w1 → wpList Try.prog ops Q rest (a.put o.dst v) w1) :
    wpList Try.prog ops Q (o :: rest) a w := by
  obtain ⟨i0, hi, hz0, hz1, hz2⟩ := info_parts i2
  refine wpList_append_own _ hgd s x 69 ho w.heap.size 2 i0 (.int .i64 0) 1 8 Try.underlying69 hi hz0 hz1 hz2 rfl (by decide) _ _ _ hs (OwnZ.nil 2 w.heap.size w) ad l.length c (UZ l) hx (by simp [UZ]) ?_ (UZ_one l) ?_ ?_ ?_ ?_
  · intro j u hj
    have hjl : j < l.length := by have := (List.getElem?_eq_some_iff.1 hj).1; simpa [UZ_length] using this
    rw [UZ_get l j hjl] at hj
    obtain ⟨b', o', e, hc⟩ := hr j hjl
    simp only [Option.some.injEq] at e
    subst e
    rw [Addr.add_lit, hc, hj]
  · simp only [maxLen, List.length_nil]; omega
  · simp only [List.length_nil]; omega
  · exact Nat.le_refl _
  · intro v' w1 h1 h2 _
    refine hK v' w1 ?_ ?_
    · unfold OwnZ; simpa [UZ] using h1
    · refine Below.grown (Keep.refl w) h2 (Nat.le_refl _) ?_
      intro k hk'
      cases hk'
/-- A copied row of nodes: all that it reaches lies in blocks of S. -/
def CT (w : World) (S : Nat → Prop) (a : Option Addr) (c : Nat) (L : List Nd) : Prop :=
  ∃ K, K.length = L.length ∧ (∀ j, j < L.length → (K.getD j nt0).1 = L.getD j nd0) ∧ OwnN 0 w (.slice a L.length c) K ∧
    (∀ j, j < L.length → OwnZ 3 0 w (.slice (K.getD j nt0).2.1 (K.getD j nt0).1.cs.length (K.getD j nt0).2.2) (K.getD j nt0).1.cs) ∧
    (∀ b, (Value.slice a L.length c).ownBlock = some b → S b) ∧
    (∀ j, j < L.length → ∀ b, (Value.slice (K.getD j nt0).2.1 (K.getD j nt0).1.cs.length (K.getD j nt0).2.2).ownBlock = some b → S b)
theorem CT.same {w w' : World} {S S' : Nat → Prop} {a : Option Addr} {c : Nat} {L : List Nd} (h : CT w S a c L) (hs : ∀ b, S b → w'.heap[b]? = w.heap[b]?) (hS : ∀ b, S b → S' b) : CT w' S' a c L := by
  obtain ⟨K, h1, h2, h3, h4, h5, h6⟩ := h
  exact ⟨K, h1, h2, h3.same (fun b hb => hs b (h5 b hb)), fun j hj => (h4 j hj).same (fun b hb => hs b (h6 j hj b hb)), fun b hb => hS b (h5 b hb), fun j hj b hb => hS b (h6 j hj b hb)⟩
theorem OwnN.mono {B B' : Nat} {w : World} {v : Value} {l : List (Nd × Option Addr × Nat)} (h : OwnN B w v l) (hB : B' ≤ B) : OwnN B' w v l := by
  refine ⟨h.1, ?_⟩
  rcases h.2 with h2 | ⟨g, cap, cur, hv, hg, r⟩
  · exact .inl h2
  · exact .inr ⟨g, cap, cur, hv, by omega, r⟩
theorem NIt.ct {L : List Nd} {w wr : World} {v : Value} {K : List (Nd × Option Addr × Nat)} (h : NIt L w L.length v wr K) : ∃ a c, v = .slice a L.length c ∧ L.length ≤ c ∧ CT wr (fun b => w.heap.size ≤ b ∧ b < wr.heap.size) a c L := by
  obtain ⟨a, c, e, hc, -⟩ := h.own.shape
  rw [h.len] at e hc
  refine ⟨a, c, e, hc, K, h.len, h.eq, by rw [← e]; exact h.own.mono (Nat.zero_le _), fun j hj => (h.cats j hj).mono (Nat.zero_le _), ?_, ?_⟩
  · intro b hb
    rw [← e] at hb
    obtain ⟨h1, cur, h2⟩ := h.own.block hb
    exact ⟨h1, (Array.getElem?_eq_some_iff.1 h2).1⟩
  · intro j hj b hb
    obtain ⟨h1, cur, h2⟩ := (h.cats j hj).block hb
    exact ⟨h1, (Array.getElem?_eq_some_iff.1 h2).1⟩
theorem CT.rdN {w w0 : World} {S : Nat → Prop} {a a0 : Option Addr} {c : Nat} {L : List Nd} (h : CT w S a c L) (h0 : RdN w0 a0 L) : RdN w a L := by
  obtain ⟨K, h1, h2, h3, h4, h5, h6⟩ := h
  intro j hj
  obtain ⟨a', c', e, hc, hr⟩ := h3.shape
  simp only [Value.slice.injEq] at e
  obtain ⟨rfl, -, rfl⟩ := e
  obtain ⟨b, rfl, hb⟩ := hr j (by omega)
  obtain ⟨b0, o0, ca0, cp0, -, hn0⟩ := h0 j hj
  have hcs := h4 j hj
  have he := h2 j hj
  obtain ⟨ca, hca⟩ : ∃ ca, (K.getD j nt0).2.1 = ca := ⟨_, rfl⟩
  obtain ⟨cp, hcp⟩ : ∃ cp, (K.getD j nt0).2.2 = cp := ⟨_, rfl⟩
  rw [he, hca, hcp] at hcs
  have hq : K.getD j nt0 = (L.getD j nd0, ca, cp) := by rw [← he, ← hca, ← hcp]
  rw [hq] at hb
  obtain ⟨a2, c2, e2, hc2, hr2⟩ := hcs.shape
  simp only [Value.slice.injEq] at e2
  obtain ⟨rfl, -, rfl⟩ := e2
  refine ⟨b, 0, ca, cp, rfl, ?_⟩
  rw [Nat.zero_add]
  exact ⟨hb 0 _ (by omega) rfl, hb 1 _ (by omega) rfl, hb 2 _ (by omega) rfl, hb 3 _ (by omega) rfl, hb 4 _ (by omega) rfl, hb 5 _ (by omega) rfl, hb 6 _ (by omega) rfl, hb 7 _ (by omega) rfl, hr2, hc2, hn0.sz, hn0.ok⟩
/-- Trees as cells. -/
def UT : List (Int × Option Addr × Nat × Nat) → List Value
  | [] => []
  | r :: L => .int .i64 r.1 :: .slice r.2.1 r.2.2.1 r.2.2.2 :: UT L
theorem UT_append : ∀ L M, UT (L ++ M) = UT L ++ UT M
  | [], _ => rfl
  | r :: L, M => by simp [UT, UT_append L M]
theorem UT_length : ∀ L, (UT L).length = L.length * 2
  | [] => rfl
  | r :: L => by simp [UT, UT_length L]; omega
theorem UT_one : ∀ L, ∀ u ∈ UT L, u.oneCell' = true
  | [], u, h => by simp [UT] at h
  | r :: L, u, h => by
    simp only [UT, List.mem_cons] at h
    rcases h with rfl | rfl | h
    all_goals first | rfl | exact UT_one L u h
abbrev tt0 : Int × Option Addr × Nat × Nat := (0, none, 0, 0)
theorem UT_get : ∀ (K : List (Int × Option Addr × Nat × Nat)) (j i : Nat), j < K.length → i < 2 → (UT K)[j * 2 + i]? = (UT [K.getD j tt0])[i]?
  | [], j, i, h, _ => by simp at h
  | r :: K, 0, i, _, hi => by
    simp only [Nat.zero_mul, Nat.zero_add, List.getD_cons_zero]
    match i, hi with
    | 0, _ => rfl
    | 1, _ => rfl
  | r :: K, j + 1, i, h, hi => by
    have := UT_get K j i (by simpa using h) hi
    rw [show (j + 1) * 2 + i = (j * 2 + i) + 1 + 1 by omega]
    simp only [UT, List.getElem?_cons_succ, List.getD_cons_succ]
    exact this
def OwnT (B : Nat) (w : World) (v : Value) (K : List (Int × Option Addr × Nat × Nat)) : Prop := w.ownsRow B 54 2 v K.length (UT K)
theorem OwnT.nil (B : Nat) (w : World) : OwnT B w (.slice none 0 0) [] := ⟨rfl, .inl ⟨rfl, rfl⟩⟩
theorem OwnT.same {B : Nat} {w w' : World} {v : Value} {K : List (Int × Option Addr × Nat × Nat)} (h : OwnT B w v K) (k : ∀ b, v.ownBlock = some b → w'.heap[b]? = w.heap[b]?) : OwnT B w' v K := by
  refine ⟨h.1, ?_⟩
  rcases h.2 with h2 | ⟨g, cap, cur, hv, hg, hh, r⟩
  · exact .inl h2
  · exact .inr ⟨g, cap, cur, hv, hg, by rw [k g (by rw [hv]; rfl)]; exact hh, r⟩
theorem OwnT.block {B : Nat} {w : World} {v : Value} {K : List (Int × Option Addr × Nat × Nat)} (h : OwnT B w v K) {b : Nat} (hb : v.ownBlock = some b) : B ≤ b ∧ ∃ cur, w.heap[b]? = some (.cells cur 54 (0, 0)) := by
  rcases h.2 with ⟨h1, _⟩ | ⟨g, cap, cur, hv, hg, hh, r⟩
  · rw [h1] at hb; cases hb
  · rw [hv] at hb
    have hb : some g = some b := hb
    simp only [Option.some.injEq] at hb
    subst hb
    exact ⟨hg, cur, hh⟩
theorem OwnT.keep {B : Nat} {w w' : World} {v : Value} {K : List (Int × Option Addr × Nat × Nat)} (h : OwnT B w v K) (k : Keep w w') : OwnT B w' v K :=
  h.same (fun b hb => by obtain ⟨_, cur, hh⟩ := h.block hb; exact k.block b (Array.getElem?_eq_some_iff.1 hh).1)
theorem OwnT.shape {B : Nat} {w : World} {v : Value} {K : List (Int × Option Addr × Nat × Nat)} (h : OwnT B w v K) : ∃ a c, v = .slice a K.length c ∧ K.length ≤ c ∧ ∀ j, j < K.length → ∃ b, a = some ⟨b, 0, none⟩ ∧ ∀ i u, i < 2 → (UT [K.getD j tt0])[i]? = some u → w.cell? ⟨b, j * 2 + i, none⟩ = some u := by
  rcases h.2 with ⟨h1, h2⟩ | ⟨g, cap, cur, hv, hg, hh, h1, h2, h3, h4⟩
  · exact ⟨none, 0, by rw [h1, h2], by omega, fun j hj => by omega⟩
  · refine ⟨some ⟨g, 0, none⟩, cap, hv, h1, ?_⟩
    intro j hj
    refine ⟨g, rfl, ?_⟩
    intro i u hi hu
    have e1 : cur.toList[j * 2 + i]? = (UT K)[j * 2 + i]? := by rw [← h4, List.getElem?_take, if_pos (by omega)]
    rw [cell_of_row w g _ cur 54 (0, 0) hh, ← hu, ← UT_get K j i hj hi, ← e1]; simp
theorem i24 : (Try.prog.info? 54).map (fun i => (i.zero, i.size, i.bytes)) = some (some (.agg #[.int .i64 0, .slice none 0 0]), 2, 32) := by kernel_rfl
theorem appT_sep (B : Nat) (w : World) (ty : Nat) (v : Value) (l : List (Int × Option Addr × Nat × Nat)) (y : Int × Option Addr × Nat × Nat) (hown : OwnT B w v l) (hB : B ≤ w.heap.size) (ad : Addr) (c : Nat) (hnews : ∀ j u, (UT [y])[j]? = some u → w.cell? (ad.add j) = some u) (hlen : l.length + 1 ≤ 4398046511104) :
    ∃ v' w', (Builtin.append_ #[22, 22] ty #[v, .slice (some ad) 1 c]).run Try.prog w = .ok v' w' ∧ OwnT B w' v' (l ++ [y]) ∧ w.grownBy w' v.ownBlock ∧ (v'.ownBlock = v.ownBlock ∨ v'.ownBlock = some w.heap.size) := by
  obtain ⟨i0, hi, hz0, hz1, hz2⟩ := info_parts i24
  have h1 : ∀ u ∈ UT [y], u.oneCell' = true := UT_one _
  have hl : (UT [y]).length = 1 * 2 := by rw [UT_length]; rfl
  obtain ⟨v', w', hr, h2, h3, -⟩ := run_append_own (P := Try.prog) w B 22 ty 54 i0 _ 2 32 Try.underlying22 hi hz0 hz1 hz2 rfl (by decide) v _ _ hown ad 1 c (UT [y]) hl hnews h1 (by simp only [maxLen]; omega) (by omega) hB
  refine ⟨v', w', hr, ?_, h3, ?_⟩
  · unfold OwnT; rw [List.length_append, UT_append]; exact h2
  rcases hown.2 with ⟨rfl, hn⟩ | ⟨g, cap, cur, rfl, hbg, hg, hnc, hcm, hcs, htake⟩
  · have e := run_append_nil (P := Try.prog) w 22 ty 54 i0 _ Try.underlying22 hi hz0 ad 1 c (UT [y]) (by rw [hz1]; exact hl) hnews (by omega) (by omega) (by rw [hz2]; omega)
    rw [hr] at e
    simp only [Result.ok.injEq] at e
    rw [e.1]
    exact .inr rfl
  · by_cases hroom : l.length + 1 ≤ cap
    · have e := run_append_room (P := Try.prog) w 22 ty 54 i0 Try.underlying22 hi g l.length cap cur hg ad 1 c (UT [y]) (by rw [hz1]; exact hl) hnews h1 hroom (by rw [hz1, UT_length]; simp; omega)
      rw [hr] at e
      simp only [Result.ok.injEq] at e
      rw [e.1]
      exact .inl rfl
    · have holds : ∀ j u, (UT l)[j]? = some u → w.cell? ((⟨g, 0, none⟩ : Addr).add j) = some u := World.ownsRow.cells (v := .slice (some ⟨g, 0, none⟩) l.length cap) hown (g := g) rfl
      have e := run_append_grow (P := Try.prog) w 22 ty 54 i0 _ Try.underlying22 hi hz0 ⟨g, 0, none⟩ l.length cap (UT l) (by rw [hz1, UT_length]) holds ad 1 c (UT [y]) (by rw [hz1]; exact hl) hnews (by omega) (by omega) (growslice_fits (by omega) (by rw [hz2]; omega))
      rw [hr] at e
      simp only [Result.ok.injEq] at e
      rw [e.1]
      exact .inr rfl
/-- Texts as cells. -/
def US (l : List ByteArray) : List Value := l.map (fun x => Value.string x)
def OwnS (B : Nat) (w : World) (v : Value) (l : List ByteArray) : Prop := w.ownsRow B 9 1 v l.length (US l)
def RdS (w : World) (a : Option Addr) (l : List ByteArray) : Prop :=
  ∀ j, j < l.length → ∃ b o, a = some ⟨b, o, none⟩ ∧ w.cell? ⟨b, o + j, none⟩ = some (.string (l.getD j ByteArray.empty))
theorem RdS.keep {w w' : World} {a : Option Addr} {l : List ByteArray} (h : RdS w a l) (k : Keep w w') : RdS w' a l := by
  intro j hj
  obtain ⟨b, o, e, hc⟩ := h j hj
  exact ⟨b, o, e, k.cell hc⟩
theorem US_get (l : List ByteArray) (j : Nat) (h : j < l.length) : (US l)[j]? = some (.string (l.getD j ByteArray.empty)) := by simp [US, List.getD, h]
theorem OwnS.nil (B : Nat) (w : World) : OwnS B w (.slice none 0 0) [] := ⟨rfl, .inl ⟨rfl, rfl⟩⟩
theorem OwnS.shape {B : Nat} {w : World} {v : Value} {l : List ByteArray} (h : OwnS B w v l) : ∃ a c, v = .slice a l.length c ∧ l.length ≤ c ∧ RdS w a l := by
  rcases h.2 with ⟨h1, h2⟩ | ⟨g, cap, cur, hv, hg, hh, h1, h2, h3, h4⟩
  · exact ⟨none, 0, by rw [h1, h2], by omega, fun j hj => by omega⟩
  · refine ⟨some ⟨g, 0, none⟩, cap, hv, h1, ?_⟩
    intro j hj
    refine ⟨g, 0, rfl, ?_⟩
    have e1 : cur.toList[j]? = (US l)[j]? := by rw [← h4, List.getElem?_take, if_pos (by omega)]
    rw [Nat.zero_add, cell_of_row w g _ cur 9 (0, 0) hh, ← US_get l j hj, ← e1]; simp
theorem i9 : (Try.prog.info? 9).map (fun i => (i.zero, i.size, i.bytes)) = some (some (.string ByteArray.empty), 1, 16) := by kernel_rfl
/-- append(nil, texts...). -/
theorem wpList_copyS {w : World} {ops : Array Oper} {rest : List Oper} {o : Oper} {a : Act} {Q : Exit → Act → World → Prop} (hgd : o.guard = none) (s x : Operand)
    (ho : o.op = .call { callee := .builtin .append, args := #[s, x], argTypes := #[68, 68] }) (l : List ByteArray) (ad : Option Addr) (c : Nat) (hs : a.eval s = .slice none 0 0)
    (hx : a.eval x = .slice ad l.length c) (hr : RdS w ad l) (hlen : l.length ≤ 8796093022208)
    (hK : ∀ v w1, OwnS w.heap.size w1 v l → Keep w w1 → wpList Try.prog ops Q rest (a.put o.dst v) w1) :
    wpList Try.prog ops Q (o :: rest) a w := by
  rcases ad with _ | ad
  · obtain rfl : l = [] := by
      by_cases h : l = []
      · exact h
      · obtain ⟨b, o, e, -⟩ := hr 0 (List.length_pos_iff.2 h); cases e
    refine wpList_plain hgd fun K hK' => ?_
    have hrun : (Builtin.append_ #[68, 68] o.type #[.slice none 0 0, .slice none 0 c]).run Try.prog w = .ok (.slice none 0 0) w := by
      go_simp
    unfold Oper.wp
    simp [execOp, ho, resolve, invoke, builtin, hs, hx, hrun, Result.andThen]
    exact hK' _ _ (hK _ w (OwnS.nil _ _) (Keep.refl w))
  · obtain ⟨i0, hi, hz0, hz1, hz2⟩ := info_parts i9
    refine wpList_append_own _ hgd s x 68 ho w.heap.size 9 i0 _ 1 16 Try.underlying68 hi hz0 hz1 hz2 rfl (by decide) _ _ _ hs (OwnS.nil w.heap.size w) ad l.length c (US l) hx (by simp [US]) ?_ ?_ ?_ ?_ ?_ ?_
    · intro j u hj
      have hjl : j < l.length := by have := (List.getElem?_eq_some_iff.1 hj).1; simpa [US] using this
      rw [US_get l j hjl] at hj
      obtain ⟨b', o', e, hc⟩ := hr j hjl
      simp only [Option.some.injEq] at e
      subst e
      rw [Addr.add_lit, hc, hj]
    · intro u hu; obtain ⟨_, _, rfl⟩ := List.mem_map.1 hu; rfl
    · simp only [maxLen, List.length_nil]; omega
    · simp only [List.length_nil]; omega
    · exact Nat.le_refl _
    · intro v' w1 h1 h2 _
      refine hK v' w1 ?_ ?_
      · unfold OwnS; simpa [US] using h1
      · refine Below.grown (Keep.refl w) h2 (Nat.le_refl _) ?_
        intro k hk'
        cases hk'
/-- append(nil, sums...), whether they are nil or not. -/
theorem wpList_copyB {w : World} {ops : Array Oper} {rest : List Oper} {o : Oper} {a : Act} {Q : Exit → Act → World → Prop} (hgd : o.guard = none) (s x : Operand)
    (ho : o.op = .call { callee := .builtin .append, args := #[s, x], argTypes := #[69, 69] }) (l : List Int) (ad : Option Addr) (c : Nat) (hs : a.eval s = .slice none 0 0)
    (hx : a.eval x = .slice ad l.length c) (hr : RdI w ad l) (hlen : l.length ≤ 17592186044416)
    (hK : ∀ v w1, OwnZ 2 w.heap.size w1 v l → Keep w w1 → wpList Try.prog ops Q rest (a.put o.dst v) w1) :
    wpList Try.prog ops Q (o :: rest) a w := by
  rcases ad with _ | ad
  · obtain rfl : l = [] := by
      by_cases h : l = []
      · exact h
      · obtain ⟨b, o, e, -⟩ := hr 0 (List.length_pos_iff.2 h); cases e
    refine wpList_plain hgd fun K hK' => ?_
    have hrun : (Builtin.append_ #[69, 69] o.type #[.slice none 0 0, .slice none 0 c]).run Try.prog w = .ok (.slice none 0 0) w := by
      go_simp
    unfold Oper.wp
    simp [execOp, ho, resolve, invoke, builtin, hs, hx, hrun, Result.andThen]
    exact hK' _ _ (hK _ w (OwnZ.nil _ _ _) (Keep.refl w))
  · exact wpList_copyZ hgd s x ho l ad c hs hx hr hlen hK
end Go.Proofs.Ytaogjiffnebnkaa
set_option linter.unusedVariables false
set_option linter.unusedSimpArgs false
namespace Go.Proofs.Ytaogjiffnebnkaa
open Go.RowKit Go.Shelf
/-- An ensemble as a value. -/
def ens (nm : ByteArray) (fa : Option Addr) (F cf : Nat) (N : Int) (ba : Option Addr) (bl cb : Nat) (ta : Option Addr) (tl ct : Nat) : Value := .agg #[.string nm, .slice fa F cf, .int .i64 N, .slice ba bl cb, .slice ta tl ct]
theorem boxes3g (w : World) (u v x : Array Value) (t1 t2 t3 : Nat) : ∃ w4, ((w.alloc (Obj.cells u t1)).alloc (Obj.cells v t2)).alloc (Obj.cells x t3) = w4 ∧ Keep w w4 ∧ w4.heap.size = w.heap.size + 3 ∧
    w4.heap[w.heap.size]? = some (Obj.cells u t1 (0, 0)) ∧ w4.heap[w.heap.size + 1]? = some (Obj.cells v t2 (0, 0)) ∧ w4.heap[w.heap.size + 1 + 1]? = some (Obj.cells x t3 (0, 0)) := by
  refine ⟨_, rfl, (((Keep.refl w).alloc _).alloc _).alloc _, by simp, ?_, ?_, ?_⟩
  · exact (Below.heap_alloc _ _ _ (by simp; omega)).trans ((Below.heap_alloc _ _ _ (by simp)).trans (heap_alloc_new w _))
  · have := heap_alloc_new (w.alloc (Obj.cells u t1)) (Obj.cells v t2)
    rw [World.size_alloc] at this
    exact (Below.heap_alloc _ _ _ (by simp)).trans this
  · have := heap_alloc_new ((w.alloc (Obj.cells u t1)).alloc (Obj.cells v t2)) (Obj.cells x t3)
    rw [World.size_alloc, World.size_alloc] at this
    exact this
theorem set_out {w w2 : World} {h : Nat} {cs : Array Value} {i : Nat} {u : Value} {cs0 cs1 : Array Value} (k : Keep w w2) (hw : w.heap.size ≤ h + 2) (r0 : w2.heap[h]? = some (.cells cs0 71 (0, 0))) (r1 : w2.heap[h + 1]? = some (.cells cs1 71 (0, 0))) (r2 : w2.heap[h + 1 + 1]? = some (.cells cs 71 (0, 0))) :
    Keep w (w2.setCell ⟨h + 1 + 1, i, none⟩ u) ∧ (w2.setCell ⟨h + 1 + 1, i, none⟩ u).heap[h]? = some (.cells cs0 71 (0, 0)) ∧ (w2.setCell ⟨h + 1 + 1, i, none⟩ u).heap[h + 1]? = some (.cells cs1 71 (0, 0)) ∧ (w2.setCell ⟨h + 1 + 1, i, none⟩ u).heap[h + 1 + 1]? = some (.cells (cs.set! i u) 71 (0, 0)) :=
  ⟨k.setCell (by simpa using hw) _, (neq_set w2 _ _ _ h (by omega)).trans r0, (neq_set w2 _ _ _ (h + 1) (by omega)).trans r1, by have := heap_setCell_same w2 (h + 1 + 1) i _ 71 u r2; simpa using this⟩
theorem OwnS.same {B : Nat} {w w' : World} {v : Value} {K : List ByteArray} (h : OwnS B w v K) (k : ∀ b, v.ownBlock = some b → w'.heap[b]? = w.heap[b]?) : OwnS B w' v K := by
  refine ⟨h.1, ?_⟩
  rcases h.2 with h2 | ⟨g, cap, cur, hv, hg, hh, r⟩
  · exact .inl h2
  · exact .inr ⟨g, cap, cur, hv, hg, by rw [k g (by rw [hv]; rfl)]; exact hh, r⟩
theorem OwnS.block {B : Nat} {w : World} {v : Value} {K : List ByteArray} (h : OwnS B w v K) {b : Nat} (hb : v.ownBlock = some b) : B ≤ b ∧ ∃ cur, w.heap[b]? = some (.cells cur 9 (0, 0)) := by
  rcases h.2 with ⟨h1, _⟩ | ⟨g, cap, cur, hv, hg, hh, r⟩
  · rw [h1] at hb; cases hb
  · rw [hv] at hb
    have hb : some g = some b := hb
    simp only [Option.some.injEq] at hb
    subst hb
    exact ⟨hg, cur, hh⟩
theorem OwnS.keep {B : Nat} {w w' : World} {v : Value} {K : List ByteArray} (h : OwnS B w v K) (k : Keep w w') : OwnS B w' v K :=
  h.same (fun b hb => by obtain ⟨_, cur, hh⟩ := h.block hb; exact k.block b (Array.getElem?_eq_some_iff.1 hh).1)
/-- What Copy holds between two rounds. -/
structure CIt (ts : List (Int × List Nd)) (W : World) (k : Nat) (v : Value) (wr : World) (K : List (Int × Option Addr × Nat × Nat)) : Prop where
  len : K.length = k
  eq : ∀ j, j < k → (K.getD j tt0).1 = (ts.getD j (0, [])).1 ∧ (K.getD j tt0).2.2.1 = (ts.getD j (0, [])).2.length ∧ (ts.getD j (0, [])).2.length ≤ (K.getD j tt0).2.2.2
  own : OwnT W.heap.size wr v K
  ct : ∀ j, j < k → CT wr (fun b => W.heap.size ≤ b ∧ b < wr.heap.size ∧ v.ownBlock ≠ some b) (K.getD j tt0).2.1 (K.getD j tt0).2.2.2 (ts.getD j (0, [])).2
  kp : Keep W wr
theorem getD_snocT (K : List (Int × Option Addr × Nat × Nat)) (r : Int × Option Addr × Nat × Nat) (j : Nat) : (K ++ [r]).getD j tt0 = if j = K.length then r else K.getD j tt0 := by
  by_cases h : j < K.length
  · rw [if_neg (by omega)]; simp [List.getD, List.getElem?_append, h]
  · by_cases h2 : j = K.length
    · subst h2; simp [List.getD]
    · rw [if_neg h2]; simp [List.getD, List.getElem?_append, h, show ¬ j - K.length = 0 by omega]
theorem newsT (W : World) (out : Int) (a : Option Addr) (n c : Nat) : ∀ j u, (UT [(out, a, n, c)])[j]? = some u → (W.alloc (Obj.cells #[Value.int .i64 out, Value.slice a n c] 54)).cell? ((⟨W.heap.size, 0, none⟩ : Addr).add j) = some u := by
  intro j u hj
  rw [Go.WideShapes.add_plain, Nat.zero_add, cell_of_row _ _ _ _ 54 (0, 0) (heap_alloc_new W _)]
  simpa [UT] using hj
theorem step_appT {B : Nat} {w : World} {ops : Array Oper} {o : Oper} {a : Act} {K : Act → World → Prop} {Q : Exit → Act → World → Prop} {E : Prop} (hgd : o.guard = none) (s x : Operand)
    (ho : o.op = .call { callee := .builtin .append, args := #[s, x], argTypes := #[22, 22] }) (l : List (Int × Option Addr × Nat × Nat)) (out : Int) (an : Option Addr) (n cn : Nat) (v : Value) (hown : OwnT B w v l) (hB : B ≤ w.heap.size) (hlen : l.length + 1 ≤ 4398046511104)
    (hs : a.eval s = v) (hx : a.eval x = .slice (some ⟨w.heap.size, 0, none⟩) 1 1)
    (hK : ∀ v' w', OwnT B w' v' (l ++ [(out, an, n, cn)]) → (w.alloc (.cells #[.int .i64 out, .slice an n cn] 54)).grownBy w' v.ownBlock → (v'.ownBlock = v.ownBlock ∨ v'.ownBlock = some (w.heap.size + 1)) → K (a.put o.dst v') w') :
    if Region.wanted o (yielded ops a.tmps) = true then Oper.wp Try.prog o a (w.alloc (.cells #[.int .i64 out, .slice an n cn] 54)) K Q else E := by
  have hw : Region.wanted o (yielded ops a.tmps) = true := by simp [Region.wanted, hgd]
  rw [if_pos hw]
  obtain ⟨v', w', hr, h2, h3, h4⟩ := appT_sep B (w.alloc (.cells #[.int .i64 out, .slice an n cn] 54)) o.type v l (out, an, n, cn) (hown.keep ((Keep.refl w).alloc _)) (by rw [World.size_alloc]; omega) ⟨w.heap.size, 0, none⟩ 1 (newsT w out an n cn) hlen
  unfold Oper.wp execOp
  simp only [ho, resolve, invoke, builtin, Sem.run_bind, Sem.run_pure, Result.andThen_ok, List.map_toArray, List.map_cons, List.map_nil, hs, hx, hr]
  exact hK v' w' h2 h3 (by simpa using h4)
theorem CIt.step {ts : List (Int × List Nd)} {W : World} {k : Nat} {v : Value} {wr : World} {K : List (Int × Option Addr × Nat × Nat)} (hI : CIt ts W k v wr K) {out : Int} {L : List Nd} {an : Option Addr} {cn : Nat} {w6 w7 : World} {v' : Value} {ob : Obj}
    (hT : ts.getD k (0, []) = (out, L)) (kw : Keep wr w6) (hC : CT w6 (fun b => wr.heap.size ≤ b ∧ b < w6.heap.size) an cn L) (hc : L.length ≤ cn) (hO : OwnT W.heap.size w7 v' (K ++ [(out, an, L.length, cn)])) (g7 : (w6.alloc ob).grownBy w7 v.ownBlock) (hv : v'.ownBlock = v.ownBlock ∨ v'.ownBlock = some (w6.heap.size + 1)) :
    CIt ts W (k + 1) v' w7 (K ++ [(out, an, L.length, cn)]) := by
  have hlt : ∀ b, v.ownBlock = some b → W.heap.size ≤ b ∧ b < wr.heap.size := by
    intro b hb
    obtain ⟨h1, cur, hc⟩ := hI.own.block hb
    exact ⟨h1, (Array.getElem?_eq_some_iff.1 hc).1⟩
  have hle := kw.le
  have hle0 := hI.kp.le
  have ka : Keep w6 (w6.alloc ob) := (Keep.refl w6).alloc _
  have hsz := g7.size
  rw [World.size_alloc] at hsz
  have hbl : ∀ b, b < w6.heap.size → v.ownBlock ≠ some b → w7.heap[b]? = w6.heap[b]? := fun b hb hne => (g7.block b (by rw [World.size_alloc]; omega) (fun e => hne e.symm)).trans (ka.block b hb)
  have hne' : ∀ b, b < w6.heap.size → v.ownBlock ≠ some b → v'.ownBlock ≠ some b := by
    intro b hb hne e
    rcases hv with h | h
    · rw [h] at e; exact hne e
    · rw [h] at e; simp only [Option.some.injEq] at e; omega
  refine ⟨by rw [List.length_append, hI.len]; rfl, ?_, hO, ?_, ?_⟩
  · intro j hj
    rw [getD_snocT, hI.len]
    by_cases e : j = k
    · rw [if_pos e, e, hT]; exact ⟨rfl, rfl, hc⟩
    · rw [if_neg e]; exact hI.eq j (by omega)
  · intro j hj
    rw [getD_snocT, hI.len]
    by_cases e : j = k
    · rw [if_pos e, e, hT]
      refine hC.same ?_ ?_
      · rintro b ⟨h1, h2⟩
        exact hbl b h2 (fun e => by have := hlt b e; omega)
      · rintro b ⟨h1, h2⟩
        exact ⟨by omega, by omega, hne' b h2 (fun e => by have := hlt b e; omega)⟩
    · rw [if_neg e]
      refine (hI.ct j (by omega)).same ?_ ?_
      · rintro b ⟨h1, h2, h3⟩
        rw [hbl b (by omega) h3, kw.block b h2]
      · rintro b ⟨h1, h2, h3⟩
        exact ⟨h1, by omega, hne' b (by omega) h3⟩
  · exact Below.grown ((hI.kp.trans kw).alloc _) g7 (by rw [World.size_alloc]; omega) (fun b hb => (hlt b hb).1)
theorem CIt.rdT {ts : List (Int × List Nd)} {W wr wf w0 : World} {ta ta0 : Option Addr} {ct : Nat} {K : List (Int × Option Addr × Nat × Nat)} (hI : CIt ts W ts.length (.slice ta ts.length ct) wr K) (hs : ∀ b, W.heap.size ≤ b → wf.heap[b]? = wr.heap[b]?) (h0 : RdT w0 ta0 ts) : RdT wf ta ts := by
  intro j hj
  have ho : OwnT W.heap.size wf (.slice ta ts.length ct) K := hI.own.same (fun b hb => hs b (hI.own.block hb).1)
  obtain ⟨a', c', e, hc, hr⟩ := ho.shape
  simp only [Value.slice.injEq] at e
  obtain ⟨rfl, -, rfl⟩ := e
  obtain ⟨b, rfl, hb⟩ := hr j (by rw [hI.len]; exact hj)
  obtain ⟨b0, o0, na0, nc0, -, -, -, hn, -, hl, hf⟩ := h0 j hj
  obtain ⟨e1, e2, e3⟩ := hI.eq j hj
  have hC : CT wf (fun _ => True) _ _ _ := (hI.ct j hj).same (fun b hb => hs b hb.1) (fun _ _ => trivial)
  have c0 := hb 0 _ (by omega) rfl
  have c1 := hb 1 _ (by omega) rfl
  rw [e1] at c0
  rw [e2] at c1
  refine ⟨b, 0, _, _, rfl, by rw [Nat.zero_add]; exact c0, by rw [Nat.zero_add]; exact c1, hC.rdN hn, e3, hl, hf⟩
theorem fin_store (wr : World) (h : Nat) (u v0 v1 v2 v3 v4 x0 x1 x2 x3 x4 : Value) (y1 : wr.heap[h + 1]? = some (.cells #[x0, x1, x2, x3, x4] 71 (0, 0))) :
    ((((((wr.setCell ⟨h + 1 + 1, 4, none⟩ u).setCell ⟨h + 1, 0, none⟩ v0).setCell ⟨h + 1, 1, none⟩ v1).setCell ⟨h + 1, 2, none⟩ v2).setCell ⟨h + 1, 3, none⟩ v3).setCell ⟨h + 1, 4, none⟩ v4).heap[h + 1]? = some (.cells #[v0, v1, v2, v3, v4] 71 (0, 0)) ∧
    ∀ b, b ≠ h + 1 → b ≠ h + 1 + 1 → ((((((wr.setCell ⟨h + 1 + 1, 4, none⟩ u).setCell ⟨h + 1, 0, none⟩ v0).setCell ⟨h + 1, 1, none⟩ v1).setCell ⟨h + 1, 2, none⟩ v2).setCell ⟨h + 1, 3, none⟩ v3).setCell ⟨h + 1, 4, none⟩ v4).heap[b]? = wr.heap[b]? := by
  have a0 := (neq_set wr (h + 1 + 1) 4 u (h + 1) (by omega)).trans y1
  have a1 := heap_setCell_same _ (h + 1) 0 _ 71 v0 a0
  have a2 := heap_setCell_same _ (h + 1) 1 _ 71 v1 a1
  have a3 := heap_setCell_same _ (h + 1) 2 _ 71 v2 a2
  have a4 := heap_setCell_same _ (h + 1) 3 _ 71 v3 a3
  have a5 := heap_setCell_same _ (h + 1) 4 _ 71 v4 a4
  refine ⟨by simpa using a5, fun b h1 h2 => ?_⟩
  rw [neq_set _ _ _ _ b h1, neq_set _ _ _ _ b h1, neq_set _ _ _ _ b h1, neq_set _ _ _ _ b h1, neq_set _ _ _ _ b h1, neq_set _ _ _ _ b h2]
set_option maxRecDepth 100000 in
set_option maxHeartbeats 2000000 in
theorem rCopy_any (nm : ByteArray) (fa : Option Addr) (fs : List ByteArray) (cf : Nat) (N : Int) (ba : Option Addr) (base : List Int) (cb : Nat) (ta : Option Addr) (ts : List (Int × List Nd)) (ct : Nat) (w : World)
    (hf : RdS w fa fs) (hfl : fs.length ≤ 8796093022208) (hb : RdI w ba base) (hbl : base.length ≤ 17592186044416) (ht : RdT w ta ts) (htl : ts.length ≤ 4398046511104) (hts : ∀ j, j < ts.length → (ts.getD j (0, [])).2.length ≤ 1759218604441) :
    Calls Try.prog 32 #[ens nm fa fs.length cf N ba base.length cb ta ts.length ct] w fun e w' => ∃ fa' cf' ba' cb' ta' ct', e = .returned (ens nm fa' fs.length cf' N ba' base.length cb' ta' ts.length ct') ∧ RdS w' fa' fs ∧ fs.length ≤ cf' ∧ RdI w' ba' base ∧ base.length ≤ cb' ∧ RdT w' ta' ts ∧ ts.length ≤ ct' ∧ Keep w w' := by
  unfold ens
  obtain ⟨w1, hw1, k1, s1, r0, r1, r2⟩ := boxes3g w #[Value.string nm, Value.slice fa fs.length cf, Value.int IntKind.i64 N, Value.slice ba base.length cb, Value.slice ta ts.length ct] #[Value.string { data := #[] }, Value.slice none 0 0, Value.int IntKind.i64 0, Value.slice none 0 0, Value.slice none 0 0] #[Value.string nm, Value.slice fa fs.length cf, Value.int IntKind.i64 N, Value.slice ba base.length cb, Value.slice ta ts.length ct] 71 71 71
  have hf1 := hf.keep k1
  replace hw1 : Hid _ := hw1
  replace r0 : Hid _ := r0
  replace r1 : Hid _ := r1
  replace r2 : Hid _ := r2
  go_enter Try.func32, Try.ntmps32
  go_wp2_with (at_builtin; first | (rw [hw1.out]; refine wpList_copyS rfl _ _ rfl fs fa cf ?_ ?_ hf1 hfl ?_; rotate_left 2; intro vf w2 hO2 k2; obtain ⟨fa', cf', rfl, hcf, hrf⟩ := hO2.shape; have q0 := (k2.block _ (by omega)).trans r0.out; have q1 := (k2.block _ (by omega)).trans r1.out; have q2 := (k2.block _ (by omega)).trans r2.out; have fz := frozen_of_row w2 _ 1 _ 71 q2; have e3 := cell_of_row w2 _ 3 _ 71 (0, 0) q0; have e1 := cell_of_row w2 _ 1 _ 71 (0, 0) q2; simp at e3 e1; replace q0 : Hid _ := q0; replace q1 : Hid _ := q1; replace q2 : Hid _ := q2; clear hw1) | (have hq := set_out (i := 1) (u := .slice fa' fs.length cf') (k1.trans k2) (by omega) q0.out q1.out q2.out; refine wpList_copyB rfl _ _ rfl base ba cb ?_ ?_ (hb.keep hq.1) hbl ?_; rotate_left 2; intro vb w4 hO4 k4; obtain ⟨ba', cb', rfl, hcb, hrb⟩ := hO4.shape; have p0 := (k4.block _ (Array.getElem?_eq_some_iff.1 hq.2.1).1).trans hq.2.1; have p1 := (k4.block _ (Array.getElem?_eq_some_iff.1 hq.2.2.1).1).trans hq.2.2.1; have p2 := (k4.block _ (Array.getElem?_eq_some_iff.1 hq.2.2.2).1).trans hq.2.2.2; have fz4 := frozen_of_row w4 _ 3 _ 71 p2; have e4 := cell_of_row w4 _ 4 _ 71 (0, 0) p0; have e5 := cell_of_row w4 _ 3 _ 71 (0, 0) p2; simp at e4 e5; replace p0 : Hid _ := p0; replace p1 : Hid _ := p1; replace p2 : Hid _ := p2; replace hq : Hid _ := hq; clear e3 e1 fz))
  rotate_left 1
  · rfl
  · rfl
  · rfl
  · rfl
  have hq5 := set_out (i := 3) (u := .slice ba' base.length cb') (hq.out.1.trans k4) (by omega) p0.out p1.out p2.out
  have hs2 := k2.le
  have hs4 := k4.le
  rw [World.size_setCell] at hs4
  have hO5 : OwnS (w.heap.size + 3) (w4.setCell ⟨w.heap.size + 1 + 1, 3, none⟩ (.slice ba' base.length cb')) (.slice fa' fs.length cf') fs := by
    rw [s1] at hO2
    have h1 : OwnS (w.heap.size + 3) (w2.setCell ⟨w.heap.size + 1 + 1, 1, none⟩ (.slice fa' fs.length cf')) (.slice fa' fs.length cf') fs := hO2.same (fun b hb => neq_set w2 _ _ _ b (by have := (hO2.block hb).1; omega))
    have h2 := h1.keep k4
    exact h2.same (fun b hb => neq_set w4 _ _ _ b (by have := (h2.block hb).1; omega))
  have hO6 : OwnZ 2 (w.heap.size + 3) (w4.setCell ⟨w.heap.size + 1 + 1, 3, none⟩ (.slice ba' base.length cb')) (.slice ba' base.length cb') base := by
    rw [World.size_setCell] at hO4
    exact (hO4.same (fun b hb => neq_set w4 _ _ _ b (by have := (hO4.block hb).1; omega))).mono (by omega)
  clear hO2 hO4 hrf hrb p0 p1 p2 q0 q1 q2 hq r0 r1 r2 k4 k2 hf1 k1 s1 hs2 hs4 fz4 e4 e5
  generalize w4.setCell ⟨w.heap.size + 1 + 1, 3, none⟩ (.slice ba' base.length cb') = W at *
  obtain ⟨kW, z0, z1, z2⟩ := hq5
  have htW := ht.keep kW
  replace z0 : Hid _ := z0
  replace z1 : Hid _ := z1
  replace z2 : Hid _ := z2
  clear hb hf
  replace ht : Hid _ := ht
  go_loopw [5, 23] (fun v iv wr => ∃ (k : Nat) (K : List (Int × Option Addr × Nat × Nat)), k ≤ ts.length ∧ iv = .int .i64 k ∧ CIt ts W k v wr K) (fun _ iv _ => ts.length - (intOf iv).toNat)
  case atStart => exact ⟨0, [], by omega, rfl, rfl, fun j hj => by omega, OwnT.nil _ _, fun j hj => by omega, Keep.refl W⟩
  case round =>
    obtain ⟨k, K, hk, rfl, hI⟩ := hrel
    by_cases hkl : k < ts.length
    · have hkc : (k : Int) < (ts.length : Int) := by omega
      obtain ⟨b, o, na, nc, rfl, d0, d1, dn, dc, dl, df⟩ := (htW.keep hI.kp) k hkl
      have hln := hts k hkl
      obtain ⟨T, hT⟩ : ∃ T, ts.getD k (0, []) = T := ⟨_, rfl⟩
      have HT : Hid (ts.getD k (0, []) = T) := hT
      rw [hT] at d0 d1 dn dc dl df hln
      clear hT
      obtain ⟨out, L⟩ := T
      simp only at d0 d1 dn dc dl df hln
      have kx : Keep wr (wr.alloc (Obj.cells #[Value.int IntKind.i64 out, Value.slice na L.length nc] 54)) := (Keep.refl wr).alloc _
      have x0 : (wr.alloc (Obj.cells #[Value.int IntKind.i64 out, Value.slice na L.length nc] 54)).drew.cell? ⟨wr.heap.size, 0, none⟩ = some (.int .i64 out) := by
        have := cell_of_row _ _ 0 _ 54 (0, 0) (heap_alloc_new wr (Obj.cells #[Value.int IntKind.i64 out, Value.slice na L.length nc] 54))
        exact this
      have hNd := rNodes_any na nc L (wr.alloc (Obj.cells #[Value.int IntKind.i64 out, Value.slice na L.length nc] 54)).drew hln (dn.keep kx.drew)
      have hKl : K.length + 1 ≤ 4398046511104 := by have := hI.len; omega
      have kd : Keep wr (wr.alloc (Obj.cells #[Value.int IntKind.i64 out, Value.slice na L.length nc] 54)).drew := kx.drew
      go_wp2_with fail
      go_region_law (first
        | (refine step_appT (B := W.heap.size) rfl _ _ rfl K out an L.length cn _ (hI.own.keep (kd.trans k6)) (Nat.le_trans hI.kp.le (kd.trans k6).le) hKl rfl rfl ?_; intro v7 w7 hO7 g7 hv7)
        | (go_simp; go_wp2_with (go_at_call 50; refine hNd.mono ?_; rintro e w6 ⟨vn, rfl, ⟨K6, hN6⟩, k6⟩; obtain ⟨an, cn, rfl, hcn, hC6⟩ := hN6.ct; have x6 := k6.cell x0)))
      all_goals
        have hJ := hI.step HT.out (kd.trans k6) (hC6.same (fun _ _ => rfl) (fun b hb => ⟨by have h1 := hb.1; have h2 := kd.le; omega, hb.2⟩)) hcn hO7 g7 hv7
        clear hO7 g7 hv7 hC6 hN6 hNd x0 x6
        go_simp
        go_wp2_with fail
        go_roundw
        case rel => exact ⟨k + 1, _, by omega, by go_num, hJ⟩
        case measure => simp [intOf]; omega
    · have hkc : ¬ (k : Int) < (ts.length : Int) := by omega
      obtain rfl : k = ts.length := by omega
      obtain ⟨ta', ct', rfl, hct, hrt⟩ := hI.own.shape
      rw [hI.len] at hct ⊢
      have y1 := (hI.kp.block _ (Array.getElem?_eq_some_iff.1 z1.out).1).trans z1.out
      have y2 := (hI.kp.block _ (Array.getElem?_eq_some_iff.1 z2.out).1).trans z2.out
      simp at y2
      have fz := frozen_of_row wr _ 4 _ 71 y2
      have g0 := cell_of_row wr _ 0 _ 71 (0, 0) y2
      have g1 := cell_of_row wr _ 1 _ 71 (0, 0) y2
      have g2 := cell_of_row wr _ 2 _ 71 (0, 0) y2
      have g3 := cell_of_row wr _ 3 _ 71 (0, 0) y2
      have g4 := cell_of_row wr _ 4 _ 71 (0, 0) y2
      simp at g0 g1 g2 g3 g4
      have m0 := cell_of_row wr _ 0 _ 71 (0, 0) y1
      have m1 := cell_of_row wr _ 1 _ 71 (0, 0) y1
      have m2 := cell_of_row wr _ 2 _ 71 (0, 0) y1
      have m3 := cell_of_row wr _ 3 _ 71 (0, 0) y1
      have m4 := cell_of_row wr _ 4 _ 71 (0, 0) y1
      simp at m0 m1 m2 m3 m4
      have n0 := frozen_of_row wr _ 0 _ 71 y1
      have n1 := frozen_of_row wr _ 1 _ 71 y1
      have n2 := frozen_of_row wr _ 2 _ 71 y1
      have n3 := frozen_of_row wr _ 3 _ 71 y1
      have n4 := frozen_of_row wr _ 4 _ 71 y1
      replace y1 : Hid _ := y1
      replace y2 : Hid _ := y2
      go_wp2_with fail
      obtain ⟨F2, F1⟩ := fin_store wr w.heap.size (.slice ta' ts.length ct') (.string nm) (.slice fa' fs.length cf') (.int .i64 N) (.slice ba' base.length cb') (.slice ta' ts.length ct') _ _ _ _ _ y1.out
      have kf : Keep w _ := ((((((kW.trans hI.kp).setCell (p := ⟨w.heap.size + 1 + 1, 4, none⟩) (by show _ ≤ w.heap.size + 1 + 1; omega) (.slice ta' ts.length ct')).setCell (p := ⟨w.heap.size + 1, 0, none⟩) (by show _ ≤ w.heap.size + 1; omega) (.string nm)).setCell (p := ⟨w.heap.size + 1, 1, none⟩) (by show _ ≤ w.heap.size + 1; omega) (.slice fa' fs.length cf')).setCell (p := ⟨w.heap.size + 1, 2, none⟩) (by show _ ≤ w.heap.size + 1; omega) (.int .i64 N)).setCell (p := ⟨w.heap.size + 1, 3, none⟩) (by show _ ≤ w.heap.size + 1; omega) (.slice ba' base.length cb')).setCell (p := ⟨w.heap.size + 1, 4, none⟩) (by show _ ≤ w.heap.size + 1; omega) (.slice ta' ts.length ct')
      have hWs := (Array.getElem?_eq_some_iff.1 z2.out).1
      clear fz g0 g1 g2 g3 g4 m0 m1 m2 m3 m4 n0 n1 n2 n3 n4 y1 y2
      try simp only [Exit.inBlock, Exit.then]
      refine bodyPost_ret (results_cell_row rfl _ _ (w.heap.size + 1) 71 _ (0, 0) _ rfl F2 Try.underlying71 rfl (by kernel_rfl)) rfl ?_
      have o5 := (hO5.keep hI.kp)
      have o5 := o5.same (fun b hb => F1 b (by have := (o5.block hb).1; omega) (by have := (o5.block hb).1; omega))
      have o6 := (hO6.keep hI.kp)
      have o6 := o6.same (fun b hb => F1 b (by have := (o6.block hb).1; omega) (by have := (o6.block hb).1; omega))
      obtain ⟨f1, f2, ef, hf1, hf2⟩ := o5.shape
      obtain ⟨b1, b2, eb, hb1, hb2⟩ := o6.shape
      simp only [Value.slice.injEq] at ef eb
      obtain ⟨rfl, -, rfl⟩ := ef
      obtain ⟨rfl, -, rfl⟩ := eb
      have hI' : CIt ts W ts.length (.slice ta' ts.length ct') wr K := by have h := hI; rw [hI.len] at h; exact h
      exact ⟨_, _, _, _, _, _, rfl, hf2, hf1, hb2, hb1, hI'.rdT (fun b hb => F1 b (by omega) (by omega)) ht.out, hct, kf⟩
end Go.Proofs.Ytaogjiffnebnkaa
