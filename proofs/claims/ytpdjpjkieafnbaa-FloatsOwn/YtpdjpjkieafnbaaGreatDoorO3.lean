import Derived.Test.YtpdjpjkieafnbaaGreatDoorO2
import Derived.Laws.CopyOwn
import Derived.Maps.AppendAt
set_option linter.unusedVariables false
set_option linter.unusedSimpArgs false
namespace Go.Proofs.YtpdjpjkieafnbaaGreatDoor.Li
open Go.RowKit Lb
theorem Below.of_grown {wr w1 : World} (o : Obj) (h2 : (wr.alloc o).grownBy w1 (some wr.heap.size)) : Keep wr w1 := by
  refine Below.grown ((Keep.refl wr).alloc o) h2 (by simp) ?_
  intro k hk'
  simp only [Option.some.injEq] at hk'
  omega
/-- append([]uint32{}, l...). -/
theorem wpList_copy32e {wr : World} {ops : Array Oper} {rest : List Oper} {o : Oper} {a : Act} {Q : Exit → Act → World → Prop} (hgd : o.guard = none) (s x : Operand)
    (ho : o.op = .call { callee := .builtin .append, args := #[s, x], argTypes := #[52, 52] }) (l : List Nat) (ad : Option Addr) (c : Nat) (hs : a.eval s = .slice (some ⟨wr.heap.size, 0, none⟩) 0 0)
    (hx : a.eval x = .slice ad l.length c) (hr : Rd wr ad l) (hlen : l.length ≤ 35184372088000)
    (hK : ∀ v' w1, Own wr.heap.size w1 v' l → Keep wr w1 → wpList Tryz.prog ops Q rest (a.put o.dst v') w1) :
    wpList Tryz.prog ops Q (o :: rest) a (wr.alloc (.cells #[] 40)) := by
  obtain ⟨i0, hi, hz0, hz1, hz2⟩ := info_parts i62
  have hown : Own wr.heap.size (wr.alloc (.cells #[] 40)) (.slice (some ⟨wr.heap.size, 0, none⟩) 0 0) [] := ⟨rfl, .inr ⟨wr.heap.size, 0, #[], rfl, Nat.le_refl _, heap_alloc_new _ _, Nat.le_refl _, by simp [maxLen], rfl, rfl⟩⟩
  have hr' := hr.keep ((Keep.refl wr).alloc (.cells #[] 40))
  rcases ad with _ | ad
  · obtain rfl : l = [] := by
      by_cases h : l = []
      · exact h
      · obtain ⟨b, o, e, -⟩ := hr 0 (List.length_pos_iff.2 h); cases e
    refine wpList_plain hgd fun K hK' => ?_
    have hrun : (Builtin.append_ #[52, 52] o.type #[.slice (some ⟨wr.heap.size, 0, none⟩) 0 0, .slice none 0 c]).run Tryz.prog (wr.alloc (.cells #[] 40)) = .ok (.slice (some ⟨wr.heap.size, 0, none⟩) 0 0) (wr.alloc (.cells #[] 40)) := by
      go_simp
    unfold Oper.wp
    simp [execOp, ho, resolve, invoke, builtin, hs, hx, hrun, Result.andThen]
    exact hK' _ _ (hK _ _ hown ((Keep.refl wr).alloc _))
  refine wpList_append_own _ hgd s x 52 ho wr.heap.size 40 i0 (.int .u32 0) 1 4 Tryz.underlying52 hi hz0 hz1 hz2 rfl (by decide) _ _ _ hs hown ad l.length c (U l) hx (by simp [U]) ?_ (U_one l) ?_ ?_ (by simp) ?_
  · intro j u hj
    have hjl : j < l.length := by have := (List.getElem?_eq_some_iff.1 hj).1; simpa [U_length] using this
    rw [U_get l j hjl] at hj
    obtain ⟨b', o', e, hc⟩ := hr' j hjl
    simp only [Option.some.injEq] at e
    subst e
    have e2 : (Addr.mk b' o' none).add j = ⟨b', o' + j, none⟩ := by
      simp only [Addr.add]
      split
      · rename_i h; subst h; rfl
      · rfl
    rw [e2, hc, hj]
  · simp only [maxLen, List.length_nil]; omega
  · simp only [List.length_nil]; omega
  · intro v' w1 h1 h2 _
    refine hK v' w1 ?_ (Below.of_grown _ h2)
    unfold Own
    simpa [U] using h1
set_option maxRecDepth 100000 in
set_option maxHeartbeats 400000 in
theorem same_any (a b : Option Addr) (ca cb : Nat) (l : List Nat) (w : World) (_hl : l.length ≤ 70368744177664) (hra : Rd w a l) (hrb : Rd w b l) :
    Calls Tryz.prog 41 #[.slice a l.length ca, .slice b l.length cb] w fun e w' => e = .returned (.bool true) ∧ Keep w w' := by
  go_enter Tryz.func41, Tryz.ntmps41
  go_wp2
  go_loopw [5] (fun i wr => ∃ k : Nat, k ≤ l.length ∧ i = .int .i64 k ∧ Keep w wr) (fun i _ => l.length - (intOf i).toNat)
  case atStart => exact ⟨0, Nat.zero_le _, rfl, Keep.refl _⟩
  case round =>
    obtain ⟨k, hk, rfl, hd⟩ := hrel
    by_cases hkl : k < l.length
    · obtain ⟨b1, o1, rfl, hc1⟩ := (hra.keep hd) k hkl
      obtain ⟨b2, o2, rfl, hc2⟩ := (hrb.keep hd) k hkl
      obtain ⟨x, hx⟩ : ∃ x, l.getD k 0 = x := ⟨_, rfl⟩
      rw [hx] at hc1
      rw [hx] at hc2
      clear hx
      go_wp2
      go_quiet (fail)
      go_wp2
      go_roundw
      case rel => exact ⟨k + 1, by omega, by go_num, hd.drewN _⟩
      case measure => simp [intOf]; omega
    · go_wp2
      go_ret
      exact ⟨rfl, hd⟩
/-- A row of one's own, whatever it holds. -/
def AO (B C : Nat) (w : World) (v : Value) (n : Nat) : Prop := (v = .slice none 0 0 ∧ n = 0) ∨ ∃ g r, v = .slice (some ⟨g, 0, none⟩) n (r : List Nat).length ∧ B ≤ g ∧ g < C ∧ Row w g r ∧ n ≤ r.length
theorem AO.of {B C : Nat} {w : World} {v : Value} {l : List Nat} (h : Res B w v l) (hC : w.heap.size ≤ C) : AO B C w v l.length := by
  rcases h with ⟨h1, h2⟩ | ⟨g, r, e, hb, hr, h1, h2⟩
  · exact .inl ⟨h1, by rw [h2]; rfl⟩
  · exact .inr ⟨g, r, e, hb, Nat.lt_of_lt_of_le (Row.lt hr) hC, hr, h1⟩
theorem AO.same {B C : Nat} {w w' : World} {v : Value} {n : Nat} (h : AO B C w v n) (e : ∀ i, B ≤ i → i < C → w'.heap[i]? = w.heap[i]?) : AO B C w' v n := by
  rcases h with h | ⟨g, r, e1, hb, hc, hr, h1⟩
  · exact .inl h
  · exact .inr ⟨g, r, e1, hb, hc, (e g hb hc).trans hr, h1⟩
theorem AO.own {B C : Nat} {w : World} {g n : Nat} {r : List Nat} (hb : B ≤ g) (hr : Row w g r) (hn : n ≤ r.length) (hm : r.length ≤ 9223372036854775807) : Own B w (.slice (some ⟨g, 0, none⟩) n r.length) (r.take n) ∧ (r.take n).length = n := by
  have hl : (r.take n).length = n := by simp; omega
  refine ⟨⟨by simp [U], .inr ⟨g, r.length, (U r).toArray, by rw [hl], hb, hr, by rw [hl]; exact hn, by simp only [maxLen]; omega, by simp [U], ?_⟩⟩, hl⟩
  rw [hl, Nat.mul_one]
  simp [U, List.map_take]
theorem appU_ao (B C : Nat) (w : World) (ty : Nat) (v : Value) (n : Nat) (h : AO B C w v n) (hn : n ≤ 100) (hB : B ≤ w.heap.size) (ad : Addr) (y : Nat) (hc : w.cell? ad = some (.int .u32 (y : Int))) :
    ∃ g c w', (Builtin.append_ #[52, 52] ty #[v, .slice (some ad) 1 1]).run Tryz.prog w = .ok (.slice (some ⟨g, 0, none⟩) (n + 1) c) w' ∧ w'.cell? ⟨g, n, none⟩ = some (.int .u32 (y : Int)) ∧ w.grownBy w' v.ownBlock ∧ (some g = v.ownBlock ∨ g = w.heap.size) := by
  obtain ⟨i0, hi, hz0, hz1, hz2⟩ := info_parts i62
  have h1 : ∀ u ∈ U [y], u.oneCell' = true := U_one _
  have hl : (U [y]).length = 1 * 1 := rfl
  have hnews : ∀ j u, (U [y])[j]? = some u → w.cell? (ad.add j) = some u := by
    intro j u hj
    match j, hj with
    | 0, hj =>
      simp [U] at hj
      subst hj
      rw [show ad.add 0 = ad from by cases ad; rfl]; exact hc
    | j + 1, hj => simp [U] at hj
  have viaOwn : ∀ l : List Nat, l.length = n → Own B w v l → ∃ g c w', (Builtin.append_ #[52, 52] ty #[v, .slice (some ad) 1 1]).run Tryz.prog w = .ok (.slice (some ⟨g, 0, none⟩) (n + 1) c) w' ∧ w'.cell? ⟨g, n, none⟩ = some (.int .u32 (y : Int)) ∧ w.grownBy w' v.ownBlock ∧ (some g = v.ownBlock ∨ g = w.heap.size) := by
    intro l hll hown
    obtain ⟨v', w', hr, h2, h3, -, h5⟩ := run_append_own_at (P := Tryz.prog) w B 52 ty 40 i0 _ 1 4 Tryz.underlying52 hi hz0 hz1 hz2 rfl (by decide) v _ _ hown ad 1 1 (U [y]) hl hnews h1 (by simp only [maxLen]; omega) (by omega) hB
    have hO : Own B w' v' (l ++ [y]) := by unfold Own; simpa [U] using h2
    rcases hO.2 with ⟨-, q2⟩ | ⟨g, cap, cur, hv, -, hh, p1, p2, p3, p4⟩
    · simp at q2
    · refine ⟨g, cap, w', ?_, ?_, h3, by rw [hv] at h5; rcases h5 with h5 | h5; exact .inl h5; exact .inr (by simpa [Value.ownBlock] using h5)⟩
      · rw [hr, hv]; simp [hll]
      · rw [cell_of_row w' g n cur 40 (0, 0) hh]
        have e : cur.toList[n]? = (U (l ++ [y]))[n]? := by rw [← p4, List.getElem?_take, if_pos (by simp; omega)]
        rw [← Array.getElem?_toList, e]
        simp [U, hll]
  rcases h with ⟨rfl, rfl⟩ | ⟨g, r, rfl, hb, hcc, hr, hnr⟩
  · exact viaOwn [] rfl ⟨rfl, .inl ⟨rfl, rfl⟩⟩
  · by_cases hm : r.length ≤ 9223372036854775807
    · obtain ⟨o1, o2⟩ := AO.own (C := C) hb hr hnr hm
      exact viaOwn _ o2 o1
    · have e := run_append_room (P := Tryz.prog) w 52 ty 40 i0 Tryz.underlying52 hi g n r.length _ hr ad 1 1 (U [y]) (by rw [hz1]; exact hl) hnews h1 (by omega) (by rw [hz1]; simp [U]; omega)
      refine ⟨g, r.length, _, e, ?_, ?_, .inl rfl⟩
      · rw [cell_of_row _ g n _ 40 (0, 0) (setRow_heap w g _ _ 40 (0, 0) hr)]
        rw [hz1, Nat.mul_one]
        rw [← Array.getElem?_toList]
        have hl1 : ((U r).take n).length = n := by simp [U]; omega
        simp only [List.append_assoc]
        rw [List.getElem?_append_right (by simpa using Nat.le_of_eq hl1)]
        simp [U, hl1]
        rw [Nat.min_eq_left hnr, Nat.sub_self]
        rfl
      · exact ⟨rfl, rfl, rfl, by simp, fun k hk hne => setRow_other w g k _ (fun e => hne (by rw [e]; rfl))⟩
/-- append(a, 78), a a row of one's own, at the operation. -/
theorem wpList_appU (B C y : Nat) {wr : World} {ops : Array Oper} {rest : List Oper} {o : Oper} {a : Act} {Q : Exit → Act → World → Prop} (hgd : o.guard = none) (s x : Operand)
    (hop : o.op = .call { callee := .builtin .append, args := #[s, x], argTypes := #[52, 52] }) (n : Nat) (v : Value) (hs : a.eval s = v) (hao : AO B C wr v n) (hn : n ≤ 100) (hB : B ≤ wr.heap.size)
    (hx : a.eval x = .slice (some ⟨wr.heap.size, 0, none⟩) 1 1)
    (hK : ∀ g c w', w'.cell? ⟨g, n, none⟩ = some (.int .u32 (y : Int)) → (wr.alloc (.cells #[.int .u32 (y : Int)] 40)).grownBy w' v.ownBlock → (some g = v.ownBlock ∨ g = wr.heap.size + 1) → wpList Tryz.prog ops Q rest (a.put o.dst (.slice (some ⟨g, 0, none⟩) (n + 1) c)) w') :
    wpList Tryz.prog ops Q (o :: rest) a (wr.alloc (.cells #[.int .u32 (y : Int)] 40)) := by
  refine wpList_plain hgd fun K hK' => ?_
  have hao' : AO B C (wr.alloc (.cells #[.int .u32 (y : Int)] 40)) v n := by
    rcases hao with h | ⟨g, r, e1, hb, hc, hr, h1⟩
    · exact .inl h
    · exact .inr ⟨g, r, e1, hb, hc, Row.keep hr ((Keep.refl wr).alloc (.cells #[.int .u32 (y : Int)] 40)), h1⟩
  obtain ⟨g, c, w', hrun, r1, r2, r3⟩ := appU_ao B C (wr.alloc (.cells #[.int .u32 (y : Int)] 40)) o.type v n hao' hn (by simp; omega) ⟨wr.heap.size, 0, none⟩ y (by rw [cell_of_row _ _ 0 _ 40 (0, 0) (heap_alloc_new wr _)]; rfl)
  unfold Oper.wp
  simp [execOp, hop, resolve, invoke, builtin, hs, hx, hrun, Result.andThen]
  exact hK' _ _ (hK g c w' r1 r2 (by simpa using r3))
/-- Limbs that can be read, in blocks of a run. -/
def RdQ (B C : Nat) (w : World) (a : Option Addr) (l : List Nat) : Prop := ∀ j, j < l.length → ∃ b o, a = some ⟨b, o, none⟩ ∧ B ≤ b ∧ b < C ∧ w.cell? ⟨b, o + j, none⟩ = some (.int .u32 (l.getD j 0 : Nat))
theorem RdQ.same {B C : Nat} {w w' : World} {a : Option Addr} {l : List Nat} (h : RdQ B C w a l) (e : ∀ i, B ≤ i → i < C → w'.heap[i]? = w.heap[i]?) : RdQ B C w' a l := by
  intro j hj
  obtain ⟨b, o, h1, h2, h3, h4⟩ := h j hj
  exact ⟨b, o, h1, h2, h3, by rw [World.cell?_of_block (w := w) (e b h2 h3)]; exact h4⟩
theorem RdQ.rd {B C : Nat} {w : World} {a : Option Addr} {l : List Nat} (h : RdQ B C w a l) : Rd w a l := by
  intro j hj
  obtain ⟨b, o, h1, h2, h3, h4⟩ := h j hj
  exact ⟨b, o, h1, h4⟩
theorem rdB_res {B : Nat} {w : World} {v : Value} {l : List Nat} (h : Res B w v l) : ∃ a c, v = .slice a l.length c ∧ RdQ B w.heap.size w a l := by
  rcases h with ⟨rfl, rfl⟩ | ⟨g, r, rfl, hb, hr, h1, h2⟩
  · exact ⟨none, 0, rfl, fun j hj => by simp at hj⟩
  · refine ⟨some ⟨g, 0, none⟩, r.length, rfl, fun j hj => ⟨g, 0, rfl, hb, Row.lt hr, ?_⟩⟩
    rw [Nat.zero_add, hr.cell j (by omega)]
    rw [← h2]
    simp [List.getD, List.getElem?_take]
    rw [if_pos (by have := hj; rw [← h2] at this; simp at this; omega)]
theorem rdB_own {B : Nat} {w : World} {v : Value} {l : List Nat} (h : Own B w v l) : ∃ a c, v = .slice a l.length c ∧ RdQ B w.heap.size w a l := by
  rcases h.2 with ⟨h1, h2⟩ | ⟨g, cap, cur, hv, hg, hh, h1, h2, h3, h4⟩
  · exact ⟨none, 0, by rw [h1, h2], fun j hj => by omega⟩
  · refine ⟨some ⟨g, 0, none⟩, cap, hv, fun j hj => ⟨g, 0, rfl, hg, (Array.getElem?_eq_some_iff.1 hh).1, ?_⟩⟩
    rw [Nat.zero_add, cell_of_row w g j cur 40 (0, 0) hh, ← U_get l j hj, ← h4]
    simp [hj]
end Go.Proofs.YtpdjpjkieafnbaaGreatDoor.Li
