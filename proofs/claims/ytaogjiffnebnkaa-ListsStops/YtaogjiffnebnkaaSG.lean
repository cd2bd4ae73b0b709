import Derived.Test.YtaogjiffnebnkaaP4
import Derived.BigQuiet
import Derived.Deep.RegionHeld3
import Derived.Test.YtaogjiffnebnkaaFl
set_option linter.unusedVariables false
set_option linter.unusedSimpArgs false
namespace Go.Proofs.Ytaogjiffnebnkaa
open Go.RowKit Go.Shelf
attribute [local go_sem] run_store_float
/-- A list of cuts as a value. -/
def lst (F : Int) (na : Option Addr) (nl nc : Nat) (ca : Option Addr) (cl cc : Nat) (la : Option Addr) (ll lc : Nat) : Value := .agg #[.int .i64 F, .slice na nl nc, .slice ca cl cc, .slice la ll lc]
def gtB (x y : Nat) : Bool := FloatKind.f64.format.order x y == some .gt
/-- How many cuts stand ahead of the first one that is not below. -/
def fst (L : List Ct) (x : Nat) : Nat := (L.takeWhile (fun c => gtB x c.th)).length
theorem fst_le (L : List Ct) (x : Nat) : fst L x ≤ L.length := by
  unfold fst
  exact (List.takeWhile_prefix _).length_le
theorem take_all {p : Ct → Bool} : ∀ (L : List Ct) (k : Nat), k ≤ L.length → (∀ j, j < k → p (L.getD j cd0) = true) → (k < L.length → p (L.getD k cd0) = false) → (L.takeWhile p).length = k
  | [], k, hk, _, _ => by simp at hk; simp [hk]
  | c :: L, 0, _, _, h => by
    have := h (by simp)
    simp only [List.getD_cons_zero] at this
    rw [List.takeWhile_cons, this]; rfl
  | c :: L, k + 1, hk, h1, h2 => by
    have h0 := h1 0 (by omega)
    simp only [List.getD_cons_zero] at h0
    rw [List.takeWhile_cons, h0]
    have ih := take_all L k (by simpa using hk) (fun j hj => by have := h1 (j + 1) (by omega); simpa using this) (fun hj => by have := h2 (by simpa using hj); simpa using this)
    simp [ih]
set_option maxRecDepth 100000 in
set_option maxHeartbeats 1000000 in
theorem First_any (F : Int) (na : Option Addr) (L : List Ct) (nc : Nat) (ca : Option Addr) (cl cc : Nat) (la : Option Addr) (ll lc : Nat) (x : Nat) (w : World) (hLn : L.length ≤ 1048576) (hr : RdC w na L) :
    Calls Try.prog 15 #[lst F na L.length nc ca cl cc la ll lc, .float .f64 x] w fun e w' => e = .returned (.int .i64 (fst L x : Nat)) ∧ Keep w w' := by
  unfold lst
  have k0 : Keep w (w.alloc (Obj.cells #[Value.int IntKind.i64 F, Value.slice na L.length nc, Value.slice ca cl cc, Value.slice la ll lc] 33)) := (Keep.refl w).alloc _
  have hr' := hr.keep k0
  go_enter Try.func15, Try.ntmps15
  go_wp2_with fail
  go_loop [9] (fun i => ∃ k : Nat, k ≤ L.length ∧ i = .int .i64 k ∧ Hid (∀ j, j < k → gtB x (L.getD j cd0).th = true)) (fun i => L.length - (intOf i).toNat)
  case atStart => exact ⟨0, by omega, rfl, by intro j hj; omega⟩
  case round =>
    obtain ⟨k, hk, rfl, hinv⟩ := hrel
    by_cases hkl : k < L.length
    · have hkc : (k : Int) < (L.length : Int) := by omega
      obtain ⟨b, o, ca', cp', rfl, hc⟩ := hr' k hkl
      have c0 := hc.c0
      clear hc
      cases he : gtB x (L.getD k cd0).th
      · have HR : Hid (fst L x = k) := take_all L k hk hinv.out (fun _ => he)
        have he' : (FloatKind.f64.format.order x (L.getD k cd0).th == some .gt) = false := he
        generalize (L.getD k cd0).th = y at *
        clear hinv he
        go_wp2_with fail
        go_ret
        exact ⟨by rw [HR.out]; rfl, k0⟩
      · have he' : (FloatKind.f64.format.order x (L.getD k cd0).th == some .gt) = true := he
        have hn : Hid (∀ j, j < k + 1 → gtB x (L.getD j cd0).th = true) := by
          intro j hj
          rcases Nat.lt_or_ge j k with h1 | h1
          · exact hinv.out j h1
          · obtain rfl : j = k := by omega
            exact he
        generalize (L.getD k cd0).th = y at *
        clear he
        go_wp2_with fail
        go_round
        case rel => exact ⟨k + 1, by omega, by go_num, hn⟩
        case measure => simp [intOf]; omega
    · have hkc : ¬ (k : Int) < (L.length : Int) := by omega
      have HR : Hid (fst L x = L.length) := by
        have e : k = L.length := by omega
        have := take_all (p := fun c => gtB x c.th) L k hk hinv.out (fun h => absurd h hkl)
        exact this.trans e
      go_wp2_with fail
      go_ret
      exact ⟨by rw [HR.out]; rfl, k0⟩
end Go.Proofs.Ytaogjiffnebnkaa
set_option linter.unusedVariables false
set_option linter.unusedSimpArgs false
namespace Go.Proofs.Ytaogjiffnebnkaa
open Go.RowKit Go.Shelf
end Go.Proofs.Ytaogjiffnebnkaa
set_option linter.unusedVariables false
set_option linter.unusedSimpArgs false
namespace Go.Proofs.Ytaogjiffnebnkaa
open Go.RowKit Go.Shelf
end Go.Proofs.Ytaogjiffnebnkaa
set_option linter.unusedVariables false
set_option linter.unusedSimpArgs false
namespace Go.Proofs.Ytaogjiffnebnkaa
open Go.RowKit Go.Shelf
/-- Nodes as cells. -/
def UG : List (Nat × Nat × Nat) → List Value
  | [] => []
  | r :: L => .float .f64 r.1 :: .int .i64 (r.2.1 : Nat) :: .int .i64 (r.2.2 : Nat) :: UG L
theorem UG_append : ∀ L M, UG (L ++ M) = UG L ++ UG M
  | [], _ => rfl
  | r :: L, M => by simp [UG, UG_append L M]
theorem UG_length : ∀ L, (UG L).length = L.length * 3
  | [] => rfl
  | r :: L => by simp [UG, UG_length L]; omega
theorem UG_one : ∀ L, ∀ u ∈ UG L, u.oneCell' = true
  | [], u, h => by simp [UG] at h
  | r :: L, u, h => by
    simp only [UG, List.mem_cons] at h
    rcases h with rfl | rfl | rfl | h
    all_goals first | rfl | exact UG_one L u h
abbrev gt0 : Nat × Nat × Nat := (0, 0, 0)
theorem UG_get : ∀ (K : List (Nat × Nat × Nat)) (j i : Nat), j < K.length → i < 3 → (UG K)[j * 3 + i]? = (UG [K.getD j gt0])[i]?
  | [], j, i, h, _ => by simp at h
  | r :: K, 0, i, _, hi => by
    simp only [Nat.zero_mul, Nat.zero_add, List.getD_cons_zero]
    match i, hi with
    | 0, _ => rfl
    | 1, _ => rfl
    | 2, _ => rfl
  | r :: K, j + 1, i, h, hi => by
    have := UG_get K j i (by simpa using h) hi
    rw [show (j + 1) * 3 + i = (j * 3 + i) + 1 + 1 + 1 by omega]
    simp only [UG, List.getElem?_cons_succ, List.getD_cons_succ]
    exact this
def OwnG (B : Nat) (w : World) (v : Value) (K : List (Nat × Nat × Nat)) : Prop := w.ownsRow B 44 3 v K.length (UG K)
theorem OwnG.nil (B : Nat) (w : World) : OwnG B w (.slice none 0 0) [] := ⟨rfl, .inl ⟨rfl, rfl⟩⟩
theorem OwnG.same {B : Nat} {w w' : World} {v : Value} {K : List (Nat × Nat × Nat)} (h : OwnG B w v K) (k : ∀ b, v.ownBlock = some b → w'.heap[b]? = w.heap[b]?) : OwnG B w' v K := by
  refine ⟨h.1, ?_⟩
  rcases h.2 with h2 | ⟨g, cap, cur, hv, hg, hh, r⟩
  · exact .inl h2
  · exact .inr ⟨g, cap, cur, hv, hg, by rw [k g (by rw [hv]; rfl)]; exact hh, r⟩
theorem OwnG.block {B : Nat} {w : World} {v : Value} {K : List (Nat × Nat × Nat)} (h : OwnG B w v K) {b : Nat} (hb : v.ownBlock = some b) : B ≤ b ∧ ∃ cur, w.heap[b]? = some (.cells cur 44 (0, 0)) := by
  rcases h.2 with ⟨h1, _⟩ | ⟨g, cap, cur, hv, hg, hh, r⟩
  · rw [h1] at hb; cases hb
  · rw [hv] at hb
    have hb : some g = some b := hb
    simp only [Option.some.injEq] at hb
    subst hb
    exact ⟨hg, cur, hh⟩
theorem OwnG.keep {B : Nat} {w w' : World} {v : Value} {K : List (Nat × Nat × Nat)} (h : OwnG B w v K) (k : Keep w w') : OwnG B w' v K :=
  h.same (fun b hb => by obtain ⟨_, cur, hh⟩ := h.block hb; exact k.block b (Array.getElem?_eq_some_iff.1 hh).1)
theorem OwnG.shape {B : Nat} {w : World} {v : Value} {K : List (Nat × Nat × Nat)} (h : OwnG B w v K) : ∃ a c, v = .slice a K.length c ∧ K.length ≤ c ∧ ∀ j, j < K.length → ∃ b, a = some ⟨b, 0, none⟩ ∧ ∀ i u, i < 3 → (UG [K.getD j gt0])[i]? = some u → w.cell? ⟨b, j * 3 + i, none⟩ = some u := by
  rcases h.2 with ⟨h1, h2⟩ | ⟨g, cap, cur, hv, hg, hh, h1, h2, h3, h4⟩
  · exact ⟨none, 0, by rw [h1, h2], by omega, fun j hj => by omega⟩
  · refine ⟨some ⟨g, 0, none⟩, cap, hv, h1, ?_⟩
    intro j hj
    refine ⟨g, rfl, ?_⟩
    intro i u hi hu
    have e1 : cur.toList[j * 3 + i]? = (UG K)[j * 3 + i]? := by rw [← h4, List.getElem?_take, if_pos (by omega)]
    rw [cell_of_row w g _ cur 44 (0, 0) hh, ← hu, ← UG_get K j i hj hi, ← e1]; simp
theorem i44 : (Try.prog.info? 44).map (fun i => (i.zero, i.size, i.bytes)) = some (some (.agg #[.float .f64 0, .int .i64 0, .int .i64 0]), 3, 24) := by kernel_rfl
theorem appG_sep (B : Nat) (w : World) (ty : Nat) (v : Value) (l : List (Nat × Nat × Nat)) (y : Nat × Nat × Nat) (hown : OwnG B w v l) (hB : B ≤ w.heap.size) (ad : Addr) (c : Nat) (hnews : ∀ j u, (UG [y])[j]? = some u → w.cell? (ad.add j) = some u) (hlen : l.length + 1 ≤ 1099511627776) :
    ∃ v' w', (Builtin.append_ #[39, 39] ty #[v, .slice (some ad) 1 c]).run Try.prog w = .ok v' w' ∧ OwnG B w' v' (l ++ [y]) ∧ w.grownBy w' v.ownBlock ∧ (v'.ownBlock = v.ownBlock ∨ v'.ownBlock = some w.heap.size) := by
  obtain ⟨i0, hi, hz0, hz1, hz2⟩ := info_parts i44
  have h1 : ∀ u ∈ UG [y], u.oneCell' = true := UG_one _
  have hl : (UG [y]).length = 1 * 3 := by rw [UG_length]; rfl
  obtain ⟨v', w', hr, h2, h3, -⟩ := run_append_own (P := Try.prog) w B 39 ty 44 i0 _ 3 24 Try.underlying39 hi hz0 hz1 hz2 rfl (by decide) v _ _ hown ad 1 c (UG [y]) hl hnews h1 (by simp only [maxLen]; omega) (by omega) hB
  refine ⟨v', w', hr, ?_, h3, ?_⟩
  · unfold OwnG; rw [List.length_append, UG_append]; exact h2
  rcases hown.2 with ⟨rfl, hn⟩ | ⟨g, cap, cur, rfl, hbg, hg, hnc, hcm, hcs, htake⟩
  · have e := run_append_nil (P := Try.prog) w 39 ty 44 i0 _ Try.underlying39 hi hz0 ad 1 c (UG [y]) (by rw [hz1]; exact hl) hnews (by omega) (by omega) (by rw [hz2]; omega)
    rw [hr] at e
    simp only [Result.ok.injEq] at e
    rw [e.1]
    exact .inr rfl
  · by_cases hroom : l.length + 1 ≤ cap
    · have e := run_append_room (P := Try.prog) w 39 ty 44 i0 Try.underlying39 hi g l.length cap cur hg ad 1 c (UG [y]) (by rw [hz1]; exact hl) hnews h1 hroom (by rw [hz1, UG_length]; simp; omega)
      rw [hr] at e
      simp only [Result.ok.injEq] at e
      rw [e.1]
      exact .inl rfl
    · have holds : ∀ j u, (UG l)[j]? = some u → w.cell? ((⟨g, 0, none⟩ : Addr).add j) = some u := World.ownsRow.cells (v := .slice (some ⟨g, 0, none⟩) l.length cap) hown (g := g) rfl
      have e := run_append_grow (P := Try.prog) w 39 ty 44 i0 _ Try.underlying39 hi hz0 ⟨g, 0, none⟩ l.length cap (UG l) (by rw [hz1, UG_length]) holds ad 1 c (UG [y]) (by rw [hz1]; exact hl) hnews (by omega) (by omega) (growslice_fits (by omega) (by rw [hz2]; omega))
      rw [hr] at e
      simp only [Result.ok.injEq] at e
      rw [e.1]
      exact .inr rfl
/-- append(l, node). -/
theorem wpList_appG (B : Nat) (w : World) {ops : Array Oper} {rest : List Oper} {o : Oper} {a : Act} {Q : Exit → Act → World → Prop} (hgd : o.guard = none) (s x : Operand)
    (hop : o.op = .call { callee := .builtin .append, args := #[s, x], argTypes := #[39, 39] }) (l : List (Nat × Nat × Nat)) (y : Nat × Nat × Nat) (v : Value) (hs : a.eval s = v) (hown : OwnG B w v l) (hB : B ≤ w.heap.size) (ad : Addr) (c : Nat) (hx : a.eval x = .slice (some ad) 1 c)
    (hnews : ∀ j u, (UG [y])[j]? = some u → w.cell? (ad.add j) = some u) (hlen : l.length + 1 ≤ 1099511627776)
    (hK : ∀ v' w', OwnG B w' v' (l ++ [y]) → w.grownBy w' v.ownBlock → (v'.ownBlock = v.ownBlock ∨ v'.ownBlock = some w.heap.size) → wpList Try.prog ops Q rest (a.put o.dst v') w') :
    wpList Try.prog ops Q (o :: rest) a w := by
  refine wpList_plain hgd fun K hK' => ?_
  obtain ⟨v', w', hrun, r1, r2, r3⟩ := appG_sep B w o.type v l y hown hB ad c hnews hlen
  unfold Oper.wp
  simp [execOp, hop, resolve, invoke, builtin, hs, hx, hrun, Result.andThen]
  exact hK' _ _ (hK v' w' r1 r2 r3)

theorem UG_set : ∀ (K : List (Nat × Nat × Nat)) (k : Nat) (c : Nat), k < K.length → UG (K.set k ((K.getD k gt0).1, (K.getD k gt0).2.1, c)) = (UG K).set (k * 3 + 2) (.int .i64 (c : Nat))
  | [], k, c, h => by simp at h
  | r :: K, 0, c, _ => by simp [UG]
  | r :: K, k + 1, c, h => by
    have ih := UG_set K k c (by simpa using h)
    rw [show (k + 1) * 3 + 2 = (k * 3 + 2) + 1 + 1 + 1 by omega]
    simp only [List.set_cons_succ, UG, List.getD_cons_succ]
    rw [ih]
theorem OwnG.set {B : Nat} {w : World} {g m c : Nat} {K : List (Nat × Nat × Nat)} (h : OwnG B w (.slice (some ⟨g, 0, none⟩) m c) K) {k : Nat} (hk : k < K.length) (x : Nat) :
    OwnG B (w.setCell ⟨g, k * 3 + 2, none⟩ (.int .i64 (x : Nat))) (.slice (some ⟨g, 0, none⟩) m c) (K.set k ((K.getD k gt0).1, (K.getD k gt0).2.1, x)) ∧ w.frozen? ⟨g, k * 3 + 2, none⟩ = false ∧ w.cell? ⟨g, k * 3 + 2, none⟩ = some (.int .i64 ((K.getD k gt0).2.2 : Nat)) := by
  obtain ⟨a', c', e, hc, hr⟩ := h.shape
  simp only [Value.slice.injEq] at e
  obtain ⟨rfl, -, rfl⟩ := e
  obtain ⟨b, e, hu⟩ := hr k hk
  simp only [Option.some.injEq, Addr.mk.injEq, and_true] at e
  obtain rfl := e
  obtain ⟨h1, h2⟩ := h
  rcases h2 with ⟨h2, -⟩ | ⟨g', cap, cur, hv, hg, hh, r1, r2, r3, r4⟩
  · cases h2
  · simp only [Value.slice.injEq, Option.some.injEq, Addr.mk.injEq, and_true] at hv
    obtain ⟨rfl, rfl, rfl⟩ := hv
    have a1 := heap_setCell_same w g (k * 3 + 2) _ 44 (.int .i64 (x : Nat)) hh
    refine ⟨⟨?_, .inr ⟨g, c, _, by rw [List.length_set], hg, a1, by rw [List.length_set]; exact r1, r2, by simp [r3], ?_⟩⟩, frozen_of_row w _ _ _ 44 hh, hu 2 _ (by omega) rfl⟩
    · rw [UG_set K k x hk]; simp only [List.length_set]; exact h1
    · rw [UG_set K k x hk, List.length_set, ← r4]
      simp only [Array.set!_eq_setIfInBounds, Array.toList_setIfInBounds]
      rw [List.take_set]
/-- Numbers are one, whichever stands first. -/
def eqF (x y : Nat) : Bool := FloatKind.f64.format.order x y == some .eq
/-- The groups of the first k cuts. -/
def grp (L : List Ct) : Nat → List (Nat × Nat × Nat)
  | 0 => []
  | k + 1 => if 0 < k ∧ eqF (L.getD k cd0).th (L.getD (k - 1) cd0).th = true then (grp L k).set ((grp L k).length - 1) (((grp L k).getD ((grp L k).length - 1) gt0).1, ((grp L k).getD ((grp L k).length - 1) gt0).2.1, k + 1) else grp L k ++ [((L.getD k cd0).th, k, k + 1)]
theorem grp_last (L : List Ct) : ∀ k, 0 < k → 0 < (grp L k).length ∧ (grp L k).length ≤ k ∧ ((grp L k).getD ((grp L k).length - 1) gt0).2.2 = k
  | 0, h => by omega
  | k + 1, _ => by
    rw [grp]
    split
    · rename_i h
      have ih := grp_last L k h.1
      generalize grp L k = G at *
      rw [List.length_set]
      refine ⟨ih.1, by omega, ?_⟩
      have hl : G.length - 1 < G.length := by omega
      simp [List.getD, hl]
    · rw [List.length_append]
      refine ⟨by simp, ?_, ?_⟩
      · rcases Nat.eq_zero_or_pos k with e | e
        · subst e; simp [grp]
        · have := (grp_last L k e).2.1; simp; omega
      · simp [List.getD]
end Go.Proofs.Ytaogjiffnebnkaa
set_option linter.unusedVariables false
set_option linter.unusedSimpArgs false
namespace Go.Proofs.Ytaogjiffnebnkaa
open Go.RowKit Go.Shelf
attribute [local go_sem] run_store_float
theorem newsG (W : World) (n : Nat) (hn : W.heap.size = n) (t a b : Nat) : ∀ j u, (UG [(t, a, b)])[j]? = some u → (W.alloc (Obj.cells #[Value.float .f64 t, Value.int .i64 (a : Nat), Value.int .i64 (b : Nat)] 44)).cell? ((⟨n, 0, none⟩ : Addr).add j) = some u := by
  subst hn
  intro j u hj
  rw [Go.WideShapes.add_plain, Nat.zero_add, cell_of_row _ _ _ _ 44 (0, 0) (heap_alloc_new W _)]
  simpa [UG] using hj
theorem OwnG.mono {B B' : Nat} {w : World} {v : Value} {l : List (Nat × Nat × Nat)} (h : OwnG B w v l) (hB : B' ≤ B) : OwnG B' w v l := by
  refine ⟨h.1, ?_⟩
  rcases h.2 with h2 | ⟨g, cap, cur, hv, hg, r⟩
  · exact .inl h2
  · exact .inr ⟨g, cap, cur, hv, Nat.le_trans hB hg, r⟩
theorem grp_len (L : List Ct) (k : Nat) : (grp L k).length ≤ k := by
  rcases Nat.eq_zero_or_pos k with e | e
  · subst e; simp [grp]
  · exact (grp_last L k e).2.1
end Go.Proofs.Ytaogjiffnebnkaa
set_option linter.unusedVariables false
set_option linter.unusedSimpArgs false
namespace Go.Proofs.Ytaogjiffnebnkaa
open Go.RowKit Go.Shelf
attribute [local go_sem] run_store_float
set_option maxRecDepth 100000 in
set_option maxHeartbeats 1000000 in
theorem First_big (F : Int) (na : Option Addr) (L : List Ct) (nc : Nat) (ca : Option Addr) (cl cc : Nat) (la : Option Addr) (ll lc : Nat) (x : Nat) (w : World) (hLn : L.length ≤ 268435456) (hr : RdC w na L) :
    Calls Try.prog 15 #[lst F na L.length nc ca cl cc la ll lc, .float .f64 x] w fun e w' => e = .returned (.int .i64 (fst L x : Nat)) ∧ Keep w w' := by
  unfold lst
  have k0 : Keep w (w.alloc (Obj.cells #[Value.int IntKind.i64 F, Value.slice na L.length nc, Value.slice ca cl cc, Value.slice la ll lc] 33)) := (Keep.refl w).alloc _
  have hr' := hr.keep k0
  go_enter Try.func15, Try.ntmps15
  go_wp2_with fail
  go_loop [9] (fun i => ∃ k : Nat, k ≤ L.length ∧ i = .int .i64 k ∧ Hid (∀ j, j < k → gtB x (L.getD j cd0).th = true)) (fun i => L.length - (intOf i).toNat)
  case atStart => exact ⟨0, by omega, rfl, by intro j hj; omega⟩
  case round =>
    obtain ⟨k, hk, rfl, hinv⟩ := hrel
    by_cases hkl : k < L.length
    · have hkc : (k : Int) < (L.length : Int) := by omega
      obtain ⟨b, o, ca', cp', rfl, hc⟩ := hr' k hkl
      have c0 := hc.c0
      clear hc
      cases he : gtB x (L.getD k cd0).th
      · have HR : Hid (fst L x = k) := take_all L k hk hinv.out (fun _ => he)
        have he' : (FloatKind.f64.format.order x (L.getD k cd0).th == some .gt) = false := he
        generalize (L.getD k cd0).th = y at *
        clear hinv he
        go_wp2_with fail
        go_ret
        exact ⟨by rw [HR.out]; rfl, k0⟩
      · have he' : (FloatKind.f64.format.order x (L.getD k cd0).th == some .gt) = true := he
        have hn : Hid (∀ j, j < k + 1 → gtB x (L.getD j cd0).th = true) := by
          intro j hj
          rcases Nat.lt_or_ge j k with h1 | h1
          · exact hinv.out j h1
          · obtain rfl : j = k := by omega
            exact he
        generalize (L.getD k cd0).th = y at *
        clear he
        go_wp2_with fail
        go_round
        case rel => exact ⟨k + 1, by omega, by go_num, hn⟩
        case measure => simp [intOf]; omega
    · have hkc : ¬ (k : Int) < (L.length : Int) := by omega
      have HR : Hid (fst L x = L.length) := by
        have e : k = L.length := by omega
        have := take_all (p := fun c => gtB x c.th) L k hk hinv.out (fun h => absurd h hkl)
        exact this.trans e
      go_wp2_with fail
      go_ret
      exact ⟨by rw [HR.out]; rfl, k0⟩
set_option maxRecDepth 100000 in
set_option maxHeartbeats 2000000 in
theorem Groups_big (F : Int) (na : Option Addr) (L : List Ct) (nc : Nat) (ca : Option Addr) (cl cc : Nat) (la : Option Addr) (ll lc : Nat) (w : World) (hLn : L.length ≤ 268435456) (hr : RdC w na L) :
    Calls Try.prog 22 #[lst F na L.length nc ca cl cc la ll lc] w fun e w' => ∃ v, e = .returned v ∧ OwnG w.heap.size w' v (grp L L.length) ∧ Keep w w' := by
  unfold lst
  obtain ⟨w1, hw1, k0, tb⟩ : ∃ w1, w.alloc (Obj.cells #[Value.int IntKind.i64 F, Value.slice na L.length nc, Value.slice ca cl cc, Value.slice la ll lc] 33) = w1 ∧ Keep w w1 ∧ w1.heap[w.heap.size]? = some (Obj.cells #[Value.int IntKind.i64 F, Value.slice na L.length nc, Value.slice ca cl cc, Value.slice la ll lc] 33 (0, 0)) := ⟨_, rfl, (Keep.refl w).alloc _, heap_alloc_new w _⟩
  have b1 := cell_of_row _ _ 1 _ 33 (0, 0) tb
  simp only [List.getElem?_toArray, List.getElem?_cons_zero, List.getElem?_cons_succ] at b1
  have hr1 := hr.keep k0
  replace hw1 : Hid _ := hw1
  clear tb
  go_enter Try.func22, Try.ntmps22
  go_wp2_with fail
  rw [hw1.out]
  go_loopw [3, 9] (fun v iv wr => ∃ k : Nat, k ≤ L.length ∧ iv = .int .i64 k ∧ OwnG w1.heap.size wr v (grp L k) ∧ Keep w1 wr) (fun _ iv _ => L.length - (intOf iv).toNat)
  case atStart => exact ⟨0, by omega, rfl, OwnG.nil _ _, Keep.refl w1⟩
  case round =>
    obtain ⟨k, hk, rfl, hO, kw⟩ := hrel
    have b1 := kw.cell b1
    by_cases hkl : k < L.length
    · have hkc : (k : Int) < (L.length : Int) := by omega
      obtain ⟨b, o, ca', cp', e1, hc⟩ := (hr1.keep kw) k hkl
      have hrw := hr1.keep kw
      have c0 := hc.c0
      have c1 := hc.c1
      have c2 := hc.c2
      have c3 := hc.c3
      have c4 := hc.c4
      clear hc
      have hgl := grp_len L k
      have hgs : grp L (k + 1) = if 0 < k ∧ eqF (L.getD k cd0).th (L.getD (k - 1) cd0).th = true then (grp L k).set ((grp L k).length - 1) (((grp L k).getD ((grp L k).length - 1) gt0).1, ((grp L k).getD ((grp L k).length - 1) gt0).2.1, k + 1) else grp L k ++ [((L.getD k cd0).th, k, k + 1)] := rfl
      obtain ⟨X1, hX1, kX, tX⟩ : ∃ X1, wr.alloc (Obj.cells #[Value.float FloatKind.f64 (L.getD k cd0).th, Value.slice ca' (L.getD k cd0).cs.length cp', Value.int IntKind.i64 (L.getD k cd0).tr, Value.int IntKind.i64 (L.getD k cd0).fr, Value.int IntKind.i64 (L.getD k cd0).to] 57) = X1 ∧ Keep wr X1 ∧ X1.heap[wr.heap.size]? = some (Obj.cells #[Value.float FloatKind.f64 (L.getD k cd0).th, Value.slice ca' (L.getD k cd0).cs.length cp', Value.int IntKind.i64 (L.getD k cd0).tr, Value.int IntKind.i64 (L.getD k cd0).fr, Value.int IntKind.i64 (L.getD k cd0).to] 57 (0, 0)) := ⟨_, rfl, (Keep.refl wr).alloc _, heap_alloc_new wr _⟩
      have y0 := cell_of_row _ _ 0 _ 57 (0, 0) tX
      simp only [List.getElem?_toArray, List.getElem?_cons_zero, List.getElem?_cons_succ] at y0
      have b1X := kX.cell b1
      have hOX := hO.keep kX
      have kwX := kw.trans kX
      clear tX
      replace hX1 : Hid _ := hX1
      replace hgs : Hid _ := hgs
      by_cases h0 : 0 < k
      · have g0 : decide ((0 : Int) < (k : Int)) = true := decide_eq_true (by omega)
        have hsub : (k : Int) - 1 = ((k - 1 : Nat) : Int) := by omega
        obtain ⟨b', o', ca2, cp2, e2, hc2⟩ := hrw (k - 1) (by omega)
        subst e1
        simp only [Option.some.injEq, Addr.mk.injEq, and_true] at e2
        obtain ⟨rfl, rfl⟩ := e2
        have z0 := kX.cell hc2.c0
        clear hc2 hrw
        have hgl2 := grp_last L k h0
        cases he : eqF (L.getD k cd0).th (L.getD (k - 1) cd0).th
        · have he' : (FloatKind.f64.format.order (L.getD k cd0).th (L.getD (k - 1) cd0).th == some .eq) = false := he
          have HG : Hid (grp L (k + 1) = grp L k ++ [((L.getD k cd0).th, k, k + 1)]) := by show _ = _; rw [hgs.out, if_neg (by rw [he]; simp)]
          clear hgs he hgl2
          generalize grp L k = G at *
          generalize (L.getD (k - 1) cd0).th = t0 at *
          generalize L.getD k cd0 = N at *
          go_wp2_with fail
          rw [hX1.out]
          go_quiet (fail)
          go_simp
          have kq := (Keep.refl X1).drewN nq
          have y0q := kq.cell y0
          have kq2 := fun o => kq.alloc o
          have hOq := fun o => hOX.keep (kq2 o)
          go_wp2_with (at_builtin; refine wpList_appG w1.heap.size _ rfl _ _ rfl G (N.th, k, k + 1) u3 ?_ (hOq _) (Nat.le_trans kwX.le (kq2 _).le) ⟨X1.heap.size, 0, none⟩ 1 ?_ (newsG _ _ (by simp) N.th k (k + 1)) (by omega) ?_; rotate_left 2; intro v5 w5 hO5 g5 hv5)
          · go_roundw
            case rel => exact ⟨k + 1, by omega, by go_num, by rw [HG.out]; exact hO5, Below.grown (kwX.trans (kq2 _)) g5 (kwX.trans (kq2 _)).le (fun b hb => (hOX.block hb).1)⟩
            case measure => simp [intOf]; omega
          all_goals rfl
        · have he' : (FloatKind.f64.format.order (L.getD k cd0).th (L.getD (k - 1) cd0).th == some .eq) = true := he
          have HG : Hid (grp L (k + 1) = (grp L k).set ((grp L k).length - 1) (((grp L k).getD ((grp L k).length - 1) gt0).1, ((grp L k).getD ((grp L k).length - 1) gt0).2.1, k + 1)) := by show _ = _; rw [hgs.out, if_pos ⟨h0, he⟩]
          clear hgs he
          generalize grp L k = G at *
          generalize (L.getD (k - 1) cd0).th = t0 at *
          generalize L.getD k cd0 = N at *
          obtain ⟨av, cv, rfl, hcv, hrv⟩ := hO.shape
          obtain ⟨g, rfl, -⟩ := hrv 0 hgl2.1
          have hgB := (hO.block (b := g) rfl).1
          obtain ⟨m, hm⟩ : ∃ m, G.length - 1 = m := ⟨_, rfl⟩
          have hsub2 : (G.length : Int) - 1 = (m : Int) := by omega
          have hmG : m < G.length := by omega
          have hset := fun (wx : World) (kx : Keep X1 wx) => (hOX.keep kx).set (k := m) hmG (k + 1)
          rw [hm] at HG hgl2
          rw [hgl2.2.2] at hset
          clear hrv hcv hO hOX
          go_wp2_with fail
          rw [hX1.out]
          go_quiet (fail)
          go_simp
          have kq := (Keep.refl X1).drewN nq
          obtain ⟨hs1, hs2, hs3⟩ := hset _ kq
          go_wp2_with fail
          go_roundw
          case rel => exact ⟨k + 1, by omega, by go_num, by rw [HG.out]; exact hs1, (kwX.trans kq).setCell hgB _⟩
          case measure => simp [intOf]; omega
      · have g0 : decide ((0 : Int) < (k : Int)) = false := decide_eq_false (by omega)
        have HG : Hid (grp L (k + 1) = grp L k ++ [((L.getD k cd0).th, k, k + 1)]) := by show _ = _; rw [hgs.out, if_neg (fun h => h0 h.1)]
        subst e1
        clear hgs hrw
        generalize grp L k = G at *
        generalize L.getD k cd0 = N at *
        go_wp2_with fail
        rw [hX1.out]
        go_quiet (fail)
        go_simp
        have kq := (Keep.refl X1).drewN nq
        have y0q := kq.cell y0
        have kq2 := fun o => kq.alloc o
        have hOq := fun o => hOX.keep (kq2 o)
        go_wp2_with (at_builtin; refine wpList_appG w1.heap.size _ rfl _ _ rfl G (N.th, k, k + 1) u3 ?_ (hOq _) (Nat.le_trans kwX.le (kq2 _).le) ⟨X1.heap.size, 0, none⟩ 1 ?_ (newsG _ _ (by simp) N.th k (k + 1)) (by omega) ?_; rotate_left 2; intro v5 w5 hO5 g5 hv5)
        · go_roundw
          case rel => exact ⟨k + 1, by omega, by go_num, by rw [HG.out]; exact hO5, Below.grown (kwX.trans (kq2 _)) g5 (kwX.trans (kq2 _)).le (fun b hb => (hOX.block hb).1)⟩
          case measure => simp [intOf]; omega
        all_goals rfl
    · have hkc : ¬ (k : Int) < (L.length : Int) := by omega
      obtain rfl : k = L.length := by omega
      go_wp2_with fail
      go_ret
      exact ⟨_, rfl, hO.mono k0.le, k0.trans kw⟩
end Go.Proofs.Ytaogjiffnebnkaa
