import Derived.Test.YtpdjpjkieafnbaaGreatDoorO2
import Derived.Laws.CopyOwn
import Derived.Maps.AppendAt
import Derived.Test.YtpdjpjkieafnbaaGreatDoorHX5
import Derived.Test.YtpdjpjkieafnbaaGreatDoorBC2
import Derived.Test.YtpdjpjkieafnbaaGreatDoorCards
import Derived.Test.YtpdjpjkieafnbaaGreatDoorTie
import Derived.Test.YtpdjpjkieafnbaaGreatDoorRows
import Derived.Test.YtpdjpjkieafnbaaGreatDoorChecked
import Derived.ProofKit
import Derived.OpenShut
import Derived.SizedLaws
import Derived.Deep.DeepHandedRow
import Derived.Lib.LaidTab
import Derived.Lib.TrailingZeros
import Derived.Deep.Slices
import Derived.Laws.Cover2
import Derived.Lib.AppendIntMem
set_option linter.unusedVariables false
set_option linter.unusedSimpArgs false
namespace Go.Proofs.YtpdjpjkieafnbaaGreatDoor.Li
open Go.RowKit Lb
theorem Below.of_grown {wr w1 : World} (o : Obj) (h2 : (wr.alloc o).grownBy w1 (some wr.heap.size)) : Keep wr w1 := by
  refine Below.grown ((Keep.refl wr).alloc o) h2 (by simp) ?_
  intro k hk'
  simp only [Option.some.injEq] at hk'
  omega
/-- append([]uint32{}, l...). -/
theorem wpList_copy32e {wr : World} {ops : Array Oper} {rest : List Oper} {o : Oper} {a : Act} {Q : Exit → Act → World → Prop} (hgd : o.guard = none) (s x : Operand)
    (ho : o.op = .call { callee := .builtin .append, args := #[s, x], argTypes := #[52, 52] }) (l : List Nat) (ad : Option Addr) (c : Nat) (hs : a.eval s = .slice (some ⟨wr.heap.size, 0, none⟩) 0 0)
    (hx : a.eval x = .slice ad l.length c) (hr : Rd wr ad l) (hlen : l.length ≤ 35184372088000)
    (hK : ∀ v' w1, Own wr.heap.size w1 v' l → Keep wr w1 → wpList Tryz.prog ops Q rest (a.put o.dst v') w1) :
    wpList Tryz.prog ops Q (o :: rest) a (wr.alloc (.cells #[] 40)) := by
  obtain ⟨i0, hi, hz0, hz1, hz2⟩ := info_parts i62
  have hown : Own wr.heap.size (wr.alloc (.cells #[] 40)) (.slice (some ⟨wr.heap.size, 0, none⟩) 0 0) [] := ⟨rfl, .inr ⟨wr.heap.size, 0, #[], rfl, Nat.le_refl _, heap_alloc_new _ _, Nat.le_refl _, by simp [maxLen], rfl, rfl⟩⟩
  have hr' := hr.keep ((Keep.refl wr).alloc (.cells #[] 40))
  rcases ad with _ | ad
  · obtain rfl : l = [] := by
      by_cases h : l = []
      · exact h
      · obtain ⟨b, o, e, -⟩ := hr 0 (List.length_pos_iff.2 h); cases e
    refine wpList_plain hgd fun K hK' => ?_
    have hrun : (Builtin.append_ #[52, 52] o.type #[.slice (some ⟨wr.heap.size, 0, none⟩) 0 0, .slice none 0 c]).run Tryz.prog (wr.alloc (.cells #[] 40)) = .ok (.slice (some ⟨wr.heap.size, 0, none⟩) 0 0) (wr.alloc (.cells #[] 40)) := by
      go_simp
    unfold Oper.wp
    simp [execOp, ho, resolve, invoke, builtin, hs, hx, hrun, Result.andThen]
    exact hK' _ _ (hK _ _ hown ((Keep.refl wr).alloc _))
  refine wpList_append_own _ hgd s x 52 ho wr.heap.size 40 i0 (.int .u32 0) 1 4 Tryz.underlying52 hi hz0 hz1 hz2 rfl (by decide) _ _ _ hs hown ad l.length c (U l) hx (by simp [U]) ?_ (U_one l) ?_ ?_ (by simp) ?_
  · intro j u hj
    have hjl : j < l.length := by have := (List.getElem?_eq_some_iff.1 hj).1; simpa [U_length] using this
    rw [U_get l j hjl] at hj
    obtain ⟨b', o', e, hc⟩ := hr' j hjl
    simp only [Option.some.injEq] at e
    subst e
    have e2 : (Addr.mk b' o' none).add j = ⟨b', o' + j, none⟩ := by
      simp only [Addr.add]
      split
      · rename_i h; subst h; rfl
      · rfl
    rw [e2, hc, hj]
  · simp only [maxLen, List.length_nil]; omega
  · simp only [List.length_nil]; omega
  · intro v' w1 h1 h2 _
    refine hK v' w1 ?_ (Below.of_grown _ h2)
    unfold Own
    simpa [U] using h1
set_option maxRecDepth 100000 in
set_option maxHeartbeats 400000 in
theorem same_any (a b : Option Addr) (ca cb : Nat) (l : List Nat) (w : World) (_hl : l.length ≤ 70368744177664) (hra : Rd w a l) (hrb : Rd w b l) :
    Calls Tryz.prog 41 #[.slice a l.length ca, .slice b l.length cb] w fun e w' => e = .returned (.bool true) ∧ Keep w w' := by
  go_enter Tryz.func41, Tryz.ntmps41
  go_wp2
  go_loopw [5] (fun i wr => ∃ k : Nat, k ≤ l.length ∧ i = .int .i64 k ∧ Keep w wr) (fun i _ => l.length - (intOf i).toNat)
  case atStart => exact ⟨0, Nat.zero_le _, rfl, Keep.refl _⟩
  case round =>
    obtain ⟨k, hk, rfl, hd⟩ := hrel
    by_cases hkl : k < l.length
    · obtain ⟨b1, o1, rfl, hc1⟩ := (hra.keep hd) k hkl
      obtain ⟨b2, o2, rfl, hc2⟩ := (hrb.keep hd) k hkl
      obtain ⟨x, hx⟩ : ∃ x, l.getD k 0 = x := ⟨_, rfl⟩
      rw [hx] at hc1
      rw [hx] at hc2
      clear hx
      go_wp2
      go_quiet (fail)
      go_wp2
      go_roundw
      case rel => exact ⟨k + 1, by omega, by go_num, hd.drewN _⟩
      case measure => simp [intOf]; omega
    · go_wp2
      go_ret
      exact ⟨rfl, hd⟩
/-- A row of one's own, whatever it holds. -/
def AO (B C : Nat) (w : World) (v : Value) (n : Nat) : Prop := (v = .slice none 0 0 ∧ n = 0) ∨ ∃ g r, v = .slice (some ⟨g, 0, none⟩) n (r : List Nat).length ∧ B ≤ g ∧ g < C ∧ Row w g r ∧ n ≤ r.length
theorem AO.of {B C : Nat} {w : World} {v : Value} {l : List Nat} (h : Res B w v l) (hC : w.heap.size ≤ C) : AO B C w v l.length := by
  rcases h with ⟨h1, h2⟩ | ⟨g, r, e, hb, hr, h1, h2⟩
  · exact .inl ⟨h1, by rw [h2]; rfl⟩
  · exact .inr ⟨g, r, e, hb, Nat.lt_of_lt_of_le (Row.lt hr) hC, hr, h1⟩
theorem AO.same {B C : Nat} {w w' : World} {v : Value} {n : Nat} (h : AO B C w v n) (e : ∀ i, B ≤ i → i < C → w'.heap[i]? = w.heap[i]?) : AO B C w' v n := by
  rcases h with h | ⟨g, r, e1, hb, hc, hr, h1⟩
  · exact .inl h
  · exact .inr ⟨g, r, e1, hb, hc, (e g hb hc).trans hr, h1⟩
theorem AO.own {B C : Nat} {w : World} {g n : Nat} {r : List Nat} (hb : B ≤ g) (hr : Row w g r) (hn : n ≤ r.length) (hm : r.length ≤ 9223372036854775807) : Own B w (.slice (some ⟨g, 0, none⟩) n r.length) (r.take n) ∧ (r.take n).length = n := by
  have hl : (r.take n).length = n := by simp; omega
  refine ⟨⟨by simp [U], .inr ⟨g, r.length, (U r).toArray, by rw [hl], hb, hr, by rw [hl]; exact hn, by simp only [maxLen]; omega, by simp [U], ?_⟩⟩, hl⟩
  rw [hl, Nat.mul_one]
  simp [U, List.map_take]
theorem appU_ao (B C : Nat) (w : World) (ty : Nat) (v : Value) (n : Nat) (h : AO B C w v n) (hn : n ≤ 100) (hB : B ≤ w.heap.size) (ad : Addr) (y : Nat) (hc : w.cell? ad = some (.int .u32 (y : Int))) :
    ∃ g c w', (Builtin.append_ #[52, 52] ty #[v, .slice (some ad) 1 1]).run Tryz.prog w = .ok (.slice (some ⟨g, 0, none⟩) (n + 1) c) w' ∧ w'.cell? ⟨g, n, none⟩ = some (.int .u32 (y : Int)) ∧ w.grownBy w' v.ownBlock ∧ (some g = v.ownBlock ∨ g = w.heap.size) := by
  obtain ⟨i0, hi, hz0, hz1, hz2⟩ := info_parts i62
  have h1 : ∀ u ∈ U [y], u.oneCell' = true := U_one _
  have hl : (U [y]).length = 1 * 1 := rfl
  have hnews : ∀ j u, (U [y])[j]? = some u → w.cell? (ad.add j) = some u := by
    intro j u hj
    match j, hj with
    | 0, hj =>
      simp [U] at hj
      subst hj
      rw [show ad.add 0 = ad from by cases ad; rfl]; exact hc
    | j + 1, hj => simp [U] at hj
  have viaOwn : ∀ l : List Nat, l.length = n → Own B w v l → ∃ g c w', (Builtin.append_ #[52, 52] ty #[v, .slice (some ad) 1 1]).run Tryz.prog w = .ok (.slice (some ⟨g, 0, none⟩) (n + 1) c) w' ∧ w'.cell? ⟨g, n, none⟩ = some (.int .u32 (y : Int)) ∧ w.grownBy w' v.ownBlock ∧ (some g = v.ownBlock ∨ g = w.heap.size) := by
    intro l hll hown
    obtain ⟨v', w', hr, h2, h3, -, h5⟩ := run_append_own_at (P := Tryz.prog) w B 52 ty 40 i0 _ 1 4 Tryz.underlying52 hi hz0 hz1 hz2 rfl (by decide) v _ _ hown ad 1 1 (U [y]) hl hnews h1 (by simp only [maxLen]; omega) (by omega) hB
    have hO : Own B w' v' (l ++ [y]) := by unfold Own; simpa [U] using h2
    rcases hO.2 with ⟨-, q2⟩ | ⟨g, cap, cur, hv, -, hh, p1, p2, p3, p4⟩
    · simp at q2
    · refine ⟨g, cap, w', ?_, ?_, h3, by rw [hv] at h5; rcases h5 with h5 | h5; exact .inl h5; exact .inr (by simpa [Value.ownBlock] using h5)⟩
      · rw [hr, hv]; simp [hll]
      · rw [cell_of_row w' g n cur 40 (0, 0) hh]
        have e : cur.toList[n]? = (U (l ++ [y]))[n]? := by rw [← p4, List.getElem?_take, if_pos (by simp; omega)]
        rw [← Array.getElem?_toList, e]
        simp [U, hll]
  rcases h with ⟨rfl, rfl⟩ | ⟨g, r, rfl, hb, hcc, hr, hnr⟩
  · exact viaOwn [] rfl ⟨rfl, .inl ⟨rfl, rfl⟩⟩
  · by_cases hm : r.length ≤ 9223372036854775807
    · obtain ⟨o1, o2⟩ := AO.own (C := C) hb hr hnr hm
      exact viaOwn _ o2 o1
    · have e := run_append_room (P := Tryz.prog) w 52 ty 40 i0 Tryz.underlying52 hi g n r.length _ hr ad 1 1 (U [y]) (by rw [hz1]; exact hl) hnews h1 (by omega) (by rw [hz1]; simp [U]; omega)
      refine ⟨g, r.length, _, e, ?_, ?_, .inl rfl⟩
      · rw [cell_of_row _ g n _ 40 (0, 0) (setRow_heap w g _ _ 40 (0, 0) hr)]
        rw [hz1, Nat.mul_one]
        rw [← Array.getElem?_toList]
        have hl1 : ((U r).take n).length = n := by simp [U]; omega
        simp only [List.append_assoc]
        rw [List.getElem?_append_right (by simpa using Nat.le_of_eq hl1)]
        simp [U, hl1]
        rw [Nat.min_eq_left hnr, Nat.sub_self]
        rfl
      · exact ⟨rfl, rfl, rfl, by simp, fun k hk hne => setRow_other w g k _ (fun e => hne (by rw [e]; rfl))⟩
/-- append(a, 78), a a row of one's own, at the operation. -/
theorem wpList_appU (B C y : Nat) {wr : World} {ops : Array Oper} {rest : List Oper} {o : Oper} {a : Act} {Q : Exit → Act → World → Prop} (hgd : o.guard = none) (s x : Operand)
    (hop : o.op = .call { callee := .builtin .append, args := #[s, x], argTypes := #[52, 52] }) (n : Nat) (v : Value) (hs : a.eval s = v) (hao : AO B C wr v n) (hn : n ≤ 100) (hB : B ≤ wr.heap.size)
    (hx : a.eval x = .slice (some ⟨wr.heap.size, 0, none⟩) 1 1)
    (hK : ∀ g c w', w'.cell? ⟨g, n, none⟩ = some (.int .u32 (y : Int)) → (wr.alloc (.cells #[.int .u32 (y : Int)] 40)).grownBy w' v.ownBlock → (some g = v.ownBlock ∨ g = wr.heap.size + 1) → wpList Tryz.prog ops Q rest (a.put o.dst (.slice (some ⟨g, 0, none⟩) (n + 1) c)) w') :
    wpList Tryz.prog ops Q (o :: rest) a (wr.alloc (.cells #[.int .u32 (y : Int)] 40)) := by
  refine wpList_plain hgd fun K hK' => ?_
  have hao' : AO B C (wr.alloc (.cells #[.int .u32 (y : Int)] 40)) v n := by
    rcases hao with h | ⟨g, r, e1, hb, hc, hr, h1⟩
    · exact .inl h
    · exact .inr ⟨g, r, e1, hb, hc, Row.keep hr ((Keep.refl wr).alloc (.cells #[.int .u32 (y : Int)] 40)), h1⟩
  obtain ⟨g, c, w', hrun, r1, r2, r3⟩ := appU_ao B C (wr.alloc (.cells #[.int .u32 (y : Int)] 40)) o.type v n hao' hn (by simp; omega) ⟨wr.heap.size, 0, none⟩ y (by rw [cell_of_row _ _ 0 _ 40 (0, 0) (heap_alloc_new wr _)]; rfl)
  unfold Oper.wp
  simp [execOp, hop, resolve, invoke, builtin, hs, hx, hrun, Result.andThen]
  exact hK' _ _ (hK g c w' r1 r2 (by simpa using r3))
/-- Limbs that can be read, in blocks of a run. -/
def RdQ (B C : Nat) (w : World) (a : Option Addr) (l : List Nat) : Prop := ∀ j, j < l.length → ∃ b o, a = some ⟨b, o, none⟩ ∧ B ≤ b ∧ b < C ∧ w.cell? ⟨b, o + j, none⟩ = some (.int .u32 (l.getD j 0 : Nat))
theorem RdQ.same {B C : Nat} {w w' : World} {a : Option Addr} {l : List Nat} (h : RdQ B C w a l) (e : ∀ i, B ≤ i → i < C → w'.heap[i]? = w.heap[i]?) : RdQ B C w' a l := by
  intro j hj
  obtain ⟨b, o, h1, h2, h3, h4⟩ := h j hj
  exact ⟨b, o, h1, h2, h3, by rw [World.cell?_of_block (w := w) (e b h2 h3)]; exact h4⟩
theorem RdQ.rd {B C : Nat} {w : World} {a : Option Addr} {l : List Nat} (h : RdQ B C w a l) : Rd w a l := by
  intro j hj
  obtain ⟨b, o, h1, h2, h3, h4⟩ := h j hj
  exact ⟨b, o, h1, h4⟩
theorem rdB_res {B : Nat} {w : World} {v : Value} {l : List Nat} (h : Res B w v l) : ∃ a c, v = .slice a l.length c ∧ RdQ B w.heap.size w a l := by
  rcases h with ⟨rfl, rfl⟩ | ⟨g, r, rfl, hb, hr, h1, h2⟩
  · exact ⟨none, 0, rfl, fun j hj => by simp at hj⟩
  · refine ⟨some ⟨g, 0, none⟩, r.length, rfl, fun j hj => ⟨g, 0, rfl, hb, Row.lt hr, ?_⟩⟩
    rw [Nat.zero_add, hr.cell j (by omega)]
    rw [← h2]
    simp [List.getD, List.getElem?_take]
    rw [if_pos (by have := hj; rw [← h2] at this; simp at this; omega)]
theorem rdB_own {B : Nat} {w : World} {v : Value} {l : List Nat} (h : Own B w v l) : ∃ a c, v = .slice a l.length c ∧ RdQ B w.heap.size w a l := by
  rcases h.2 with ⟨h1, h2⟩ | ⟨g, cap, cur, hv, hg, hh, h1, h2, h3, h4⟩
  · exact ⟨none, 0, by rw [h1, h2], fun j hj => by omega⟩
  · refine ⟨some ⟨g, 0, none⟩, cap, hv, fun j hj => ⟨g, 0, rfl, hg, (Array.getElem?_eq_some_iff.1 hh).1, ?_⟩⟩
    rw [Nat.zero_add, cell_of_row w g j cur 40 (0, 0) hh, ← U_get l j hj, ← h4]
    simp [hj]
end Go.Proofs.YtpdjpjkieafnbaaGreatDoor.Li
set_option linter.unusedVariables false
set_option linter.unusedSimpArgs false
namespace Go.Proofs.YtpdjpjkieafnbaaGreatDoor.Li
open Go.RowKit Lb
theorem two_word (k m : Nat) (h : k < 32 * m) : 2 ^ k < 4294967296 ^ m := by
  rw [word_pow]
  exact Nat.pow_lt_pow_right (by omega) h
theorem qN_lt (b : Nat) : qN b < 4294967296 ^ 40 := by
  unfold qN
  split
  · exact Nat.pow_pos (by omega)
  · have h := pM_lt b
    have e := pE_in b
    have q : qX b / Nat.gcd (qX b) (qY b) ≤ qX b := Nat.div_le_self _ _
    unfold qX at *
    have e2 : (pE b).toNat ≤ 971 := Int.toNat_le.2 e.2
    generalize (pE b).toNat = k at *
    have q2 : pM b * 2 ^ k < 2 ^ 53 * 2 ^ k := Nat.mul_lt_mul_of_pos_right h (Nat.two_pow_pos k)
    have q3 : (2 : Nat) ^ 53 * 2 ^ k < 4294967296 ^ 40 := by
      rw [← Nat.pow_add]
      exact two_word (53 + k) 40 (by omega)
    exact Nat.lt_of_le_of_lt q (Nat.lt_trans q2 q3)
theorem qD_lt (b : Nat) : qD b < 4294967296 ^ 40 := by
  unfold qD
  split
  · exact Nat.pow_pos (by omega)
  · have e := pE_in b
    have q : qY b / Nat.gcd (qX b) (qY b) ≤ qY b := Nat.div_le_self _ _
    have e3 : qY b = 2 ^ (-(pE b)).toNat := by unfold qY; rw [Nat.one_mul]
    have e2 : (-(pE b)).toNat ≤ 1074 := Int.toNat_le.2 (by have := e.1; clear e; omega)
    have q3 : 2 ^ (-(pE b)).toNat < 4294967296 ^ 40 := two_word _ 40 (by omega)
    rw [← e3] at q3
    exact Nat.lt_of_le_of_lt q q3
/-- A natural in a run of blocks: its limbs, read, and its row as one's own. -/
theorem NatQ.open {B C : Nat} {w : World} {v : Value} {n : Nat} (h : NatQ B C w v n) : ∃ a c l, v = .slice a l.length c ∧ Lim l ∧ Nrm l ∧ val l = n ∧ RdQ B C w a l ∧ AO B C w (.slice a l.length c) l.length ∧ l.length ≤ c := by
  obtain ⟨l, h1, h2, h3, h4⟩ := h
  rcases h1 with ⟨rfl, rfl⟩ | ⟨g, r, rfl, hb, hc, hr, q1, q2⟩
  · exact ⟨none, 0, [], rfl, h2, h3, h4, fun j hj => by simp at hj, .inl ⟨rfl, rfl⟩, by simp⟩
  · refine ⟨some ⟨g, 0, none⟩, r.length, l, rfl, h2, h3, h4, fun j hj => ⟨g, 0, rfl, hb, hc, ?_⟩, .inr ⟨g, r, rfl, hb, hc, hr, q1⟩, q1⟩
    rw [Nat.zero_add, hr.cell j (by omega)]
    rw [← q2]
    simp [List.getD, List.getElem?_take]
    rw [if_pos (by have := hj; rw [← q2] at this; simp at this; omega)]
theorem Own.rdq {B : Nat} {w : World} {v : Value} {l : List Nat} (h : Own B w v l) : ∃ a c, v = .slice a l.length c ∧ RdQ B w.heap.size w a l := rdB_own h
/-- The first quotient is written over and grown: nothing else turns. -/
structure OwJ (w1 w2 w7 wr : World) (M : Nat) (s : Bool) (vn vd : Value) (n d : Nat) : Prop where
  kp : Keep w1 wr
  eq : ∀ b, w2.heap.size < b → b < w7.heap.size → wr.heap[b]? = w7.heap[b]?
  sz : w7.heap.size ≤ wr.heap.size
  bx : Box wr w2.heap.size (.bool s) vn vd
  an : AO w1.heap.size M wr vn n
  ad : AO M w2.heap.size wr vd d
theorem set_other (w : World) (g j : Nat) (v : Value) (b : Nat) (h : b ≠ g) : (w.setCell ⟨g, j, none⟩ v).heap[b]? = w.heap[b]? := heap_setCell_other w ⟨g, j, none⟩ b v h
end Go.Proofs.YtpdjpjkieafnbaaGreatDoor.Li
set_option linter.unusedVariables false
set_option linter.unusedSimpArgs false
namespace Go.Proofs.YtpdjpjkieafnbaaGreatDoor.Li
open Go.RowKit Lb Nr
theorem qB_field {b : Nat} (h : qB b = true) : pField b = 2047 := by
  have h2 : pKind b = 3 ∨ pKind b = 4 := of_decide_eq_true h
  unfold pKind at h2
  by_cases q : pField b = 2047
  · exact q
  · rw [if_neg q] at h2
    exfalso
    repeat' split at h2
    all_goals omega
theorem qB_fin {b : Nat} (h : qB b = false) : pField b ≠ 2047 := by
  have h2 : ¬ (pKind b = 3 ∨ pKind b = 4) := of_decide_eq_false h
  intro q
  apply h2
  unfold pKind
  rw [if_pos q]
  split
  · exact .inl rfl
  · exact .inr rfl
theorem qY_posB (b : Nat) : 0 < qY b := by
  unfold qY
  rw [Nat.one_mul]
  exact Nat.two_pow_pos _
theorem qD_posB {b : Nat} (hq : qB b = false) : 0 < qD b := by
  have mD : qD b * Nat.gcd (qX b) (qY b) = qY b := by
    unfold qD
    rw [hq]
    exact Nat.div_mul_cancel (Nat.gcd_dvd_right _ _)
  have := qY_posB b
  rcases Nat.eq_zero_or_pos (qD b) with q | q
  · rw [q, Nat.zero_mul] at mD; omega
  · exact q
/-- A number's quotient: the number nearest to it is itself. -/
theorem near_back {b x : Nat} (hb : b < 18446744073709551616) (hk : pKind b = 1 ∨ pKind b = 2) (hx : 0 < qN b → ∀ E, IsE (qN b) (qD b) E → x = wb (rup (sA (qN b) E) (sB (qD b) E)) E + sg (qS b)) : x = b := by
  obtain ⟨p1, p2, p3, p4⟩ := kind_parts hk
  have hf := kind_field hk
  have hq : qB b = false := decide_eq_false (by omega)
  obtain ⟨y, hy⟩ : ∃ y, b % 9223372036854775808 = y := ⟨_, rfl⟩
  have hy2 : y < 9218868437227405312 := by unfold pField at hf; omega
  have hby := amount_of hb
  rw [hy] at hby
  obtain ⟨e1, e2, e3⟩ := amount_partsB y (pNeg b) (by omega)
  rw [← hby] at e1 e2 e3
  have hk' := hk
  rw [e3] at hk'
  have hX : 0 < qX b := Nat.mul_pos p1 (Nat.two_pow_pos _)
  have hY := qY_posB b
  have hg : 0 < Nat.gcd (qX b) (qY b) := Nat.gcd_pos_of_pos_right _ hY
  have eN : qN b = qX b / Nat.gcd (qX b) (qY b) := by unfold qN; rw [hq]; rfl
  have eD : qD b = qY b / Nat.gcd (qX b) (qY b) := by unfold qD; rw [hq]; rfl
  have hS : qS b = pNeg b := by
    unfold qS
    rw [hq, decide_eq_false (by omega)]
    rfl
  have mN : qN b * Nat.gcd (qX b) (qY b) = qX b := by rw [eN]; exact Nat.div_mul_cancel (Nat.gcd_dvd_left _ _)
  have mD : qD b * Nat.gcd (qX b) (qY b) = qY b := by rw [eD]; exact Nat.div_mul_cancel (Nat.gcd_dvd_right _ _)
  have hN0 : 0 < qN b := by
    rcases Nat.eq_zero_or_pos (qN b) with q | q
    · rw [q, Nat.zero_mul] at mN; omega
    · exact q
  have hD0 : 0 < qD b := by
    rcases Nat.eq_zero_or_pos (qD b) with q | q
    · rw [q, Nat.zero_mul] at mD; omega
    · exact q
  have hNB : NB (qN b) (qD b) y := by
    refine exact_nb hN0 hD0 hy2 hk' ?_
    rw [← e1, ← e2]
    have h1 : qN b * qY b = qX b * qD b := by
      generalize Nat.gcd (qX b) (qY b) = g at mN mD
      rw [← mD, ← mN]
      ac_rfl
    have h2 : qY b = 2 ^ (-(pE b)).toNat := by unfold qY; rw [Nat.one_mul]
    have h3 : qX b = pM b * 2 ^ (pE b).toNat := rfl
    rw [h2, h3] at h1
    rw [h1]
    ac_rfl
  obtain ⟨E, hE⟩ := exE hN0 hD0
  rw [hx hN0 E hE, ← hNB.2 hN0 E hE, hS]
  exact hby.symm
theorem qN_zero {b : Nat} (hk : pKind b = 0) : qN b = 0 := by
  have h0 : pM b = 0 := by
    unfold pM
    unfold pKind at hk
    by_cases c1 : pField b = 2047
    · rw [if_pos c1] at hk; split at hk <;> omega
    · rw [if_neg c1] at hk
      by_cases c2 : pField b = 0
      · by_cases c3 : pKept b = 0
        · rw [c2, if_neg (by omega)]; exact c3
        · rw [c2, if_neg (by omega), if_pos (by omega)] at hk; omega
      · rw [if_pos (by omega)] at hk; omega
  have hq : qB b = false := decide_eq_false (by omega)
  unfold qN
  rw [hq]
  show qX b / _ = 0
  unfold qX
  rw [h0, Nat.zero_mul, Nat.zero_div]
end Go.Proofs.YtpdjpjkieafnbaaGreatDoor.Li
namespace Go.Proofs.YtpdjpjkieafnbaaGreatDoor.Li.Nw
theorem ord_selfZ (b : Nat) (h : ¬ Fs.isNaN b) : FloatKind.f32.format.order b b = some .eq := by
  refine Eq.trans (Fs.order_ky b b h h) ?_
  rw [Int.compare_eq_eq.2 rfl]
theorem ord_nanZ (b : Nat) (h : Fs.isNaN b) : FloatKind.f32.format.order b b = none := Fs.order_nan b b (.inl h)
end Go.Proofs.YtpdjpjkieafnbaaGreatDoor.Li.Nw
namespace Go.Proofs.YtpdjpjkieafnbaaGreatDoor.Li
open Go.RowKit Lb Nr
set_option maxRecDepth 100000 in
set_option maxHeartbeats 4000000 in
/-- There and back. -/
theorem law_back (b u : Nat) (w : World) (hb : b < 18446744073709551616) (hu : u < 4294967296) (hT : ∀ wx, Keep w wx → Bi.Tab wx) (hP : ∀ wx, Keep w wx → Lib.TabIs Tryz.prog wx "internal/strconv.uint64pow10" .u64 Lib.pow10Tab) :
    Calls Tryz.prog 5 #[.int .u64 (b : Int), .int .u32 (u : Int)] w fun e w' => e = .returned (.bool true) ∧ Keep w w' := by
  have hB := fun wx => begins_any wx
  have h19 := fun wx => f64from b wx
  have h28 := fun wx => f32from u wx
  have h31 := fun (x : Nat) wx => Nw.f32bitsB x wx
  have h34 := fun (x : Nat) wx => f64bits x wx
  have hS : Hid (∀ wx, Keep w wx → _) := fun wx kx => Shortest_back b hb wx (fun wy ky => hP wy (kx.trans ky))
  have hE : Hid (∀ wx, Keep w wx → _) := fun wx kx => Exact_back b hb wx (hT wx kx)
  have hX : Hid (∀ wx, Keep w wx → _) := fun wx kx => Hex_back b hb wx (fun wy ky => hT wy (kx.trans ky)) (fun wy ky => hP wy (kx.trans ky))
  have hN : Hid (∀ wx, Keep w wx → _) := fun wx kx => Nw.Shortest_back u hu wx (fun wy ky => hP wy (kx.trans ky))
  have hQ := fun wx => Quotient_own b hb wx
  have bn : Hid _ := qN_lt b
  have bd : Hid _ := qD_lt b
  clear hT hP
  have hin := pKind_in b
  have hcase : qB b = true ∨ pKind b = 0 ∨ (pKind b = 1 ∨ pKind b = 2) := by
    by_cases q : pKind b = 3 ∨ pKind b = 4
    · exact .inl (decide_eq_true q)
    · omega
  by_cases hn : Fs.isNaN u
  · rcases hcase with hq | hq | hq
    · have hz : qZ b = 60 := by unfold qZ; rw [hq]; rfl
      rw [hz] at hQ
      have hA2 : bits .and .u64 ((b : Int) / 4503599627370496) 2047 = 2047 := by rw [andTopUB b hb, qB_field hq]; rfl
      clear hz hq
      have o1 := Nw.ord_nanZ u hn
      clear hin
      go_enter Tryz.func5, Tryz.ntmps5
      go_wp2_with fail
      refine (hB _).mono ?_
      rintro e w1 ⟨rfl, k1⟩
      go_wp2_with fail
      refine (hS.out _ k1).mono ?_
      rintro e w2 ⟨S1, rfl, hR1, k2⟩
      have b1 := fun wx => back_any S1 b hR1 wx
      clear hR1
      have k12 := k1.trans k2
      go_wp2_with fail
      refine (b1 _).mono ?_
      rintro e w3 ⟨rfl, k3⟩
      have k13 := k12.trans k3
      clear b1
      go_wp2_with fail
      refine (hE.out _ k13).mono ?_
      rintro e w4 ⟨S2, rfl, hR2, k4⟩
      have b2 := fun wx => back_any S2 b hR2 wx
      clear hR2
      have k14 := k13.trans k4
      go_wp2_with fail
      refine (b2 _).mono ?_
      rintro e w5 ⟨rfl, k5⟩
      have k15 := k14.trans k5
      clear b2
      go_wp2_with fail
      refine (hX.out _ k15).mono ?_
      rintro e w6 ⟨S3, rfl, hR3, k6⟩
      have b3 := fun wx => back_any S3 b hR3 wx
      clear hR3
      have k16 := k15.trans k6
      go_wp2_with fail
      refine (b3 _).mono ?_
      rintro e w7 ⟨rfl, k7⟩
      have k17 := k16.trans k7
      clear b3
      go_wp2_with fail
      refine (hN.out _ k17).mono ?_
      rintro e w8 ⟨S4, rfl, hR4, k8⟩
      have HR4 : Hid (Nw.RB S4 u) := hR4
      clear hR4
      have k18 : Hid (Keep w w8) := k17.trans k8
      clear k1 k2 k3 k4 k5 k6 k7 k8 k12 k13 k14 k15 k16 k17
      go_wp2_with fail
      refine (HR4.out _).mono ?_
      rintro e w9 ⟨x9, rfl, hx1, hx2, k9⟩
      have o2 := Nw.ord_nanZ x9 (hx1 hn)
      clear hx1 hx2
      have k19 : Hid (Keep w w9) := k18.out.trans k9
      clear k9 k18
      go_wp2_with fail
      refine (hQ _).mono ?_
      rintro e w10 ⟨M, va, vb, rfl, m1, m2, qa, qb, k10⟩
      obtain ⟨aa, ca, la, rfl, -⟩ := qa.open
      obtain ⟨ab, cb, lb, rfl, -⟩ := qb.open
      have k20 : Hid (Keep w w10) := k19.out.trans k10
      clear qa qb hQ k10 m1 m2
      go_wp2_with fail
      go_ret
      exact ⟨rfl, k20.out.alloc _⟩
    · have hqf : qB b = false := decide_eq_false (by omega)
      have hz : qZ b = 0 := by unfold qZ; rw [hqf]; rfl
      rw [hz] at hQ
      have hO := fin_orderB hb (qB_fin hqf)
      have hdp : Hid (0 < qD b) := qD_posB hqf
      have hO2 : (FloatKind.f64.format.order b 0 == some Ordering.eq) = true := by rw [hO]; exact decide_eq_true hq
      have HQ : Hid (qN b = 0) := qN_zero hq
      clear hz hO hq hqf
      have o1 := Nw.ord_nanZ u hn
      clear hin
      go_enter Tryz.func5, Tryz.ntmps5
      go_wp2_with fail
      refine (hB _).mono ?_
      rintro e w1 ⟨rfl, k1⟩
      go_wp2_with fail
      refine (hS.out _ k1).mono ?_
      rintro e w2 ⟨S1, rfl, hR1, k2⟩
      have b1 := fun wx => back_any S1 b hR1 wx
      clear hR1
      have k12 := k1.trans k2
      go_wp2_with fail
      refine (b1 _).mono ?_
      rintro e w3 ⟨rfl, k3⟩
      have k13 := k12.trans k3
      clear b1
      go_wp2_with fail
      refine (hE.out _ k13).mono ?_
      rintro e w4 ⟨S2, rfl, hR2, k4⟩
      have b2 := fun wx => back_any S2 b hR2 wx
      clear hR2
      have k14 := k13.trans k4
      go_wp2_with fail
      refine (b2 _).mono ?_
      rintro e w5 ⟨rfl, k5⟩
      have k15 := k14.trans k5
      clear b2
      go_wp2_with fail
      refine (hX.out _ k15).mono ?_
      rintro e w6 ⟨S3, rfl, hR3, k6⟩
      have b3 := fun wx => back_any S3 b hR3 wx
      clear hR3
      have k16 := k15.trans k6
      go_wp2_with fail
      refine (b3 _).mono ?_
      rintro e w7 ⟨rfl, k7⟩
      have k17 := k16.trans k7
      clear b3
      go_wp2_with fail
      refine (hN.out _ k17).mono ?_
      rintro e w8 ⟨S4, rfl, hR4, k8⟩
      have HR4 : Hid (Nw.RB S4 u) := hR4
      clear hR4
      have k18 : Hid (Keep w w8) := k17.trans k8
      clear k1 k2 k3 k4 k5 k6 k7 k8 k12 k13 k14 k15 k16 k17
      go_wp2_with fail
      refine (HR4.out _).mono ?_
      rintro e w9 ⟨x9, rfl, hx1, hx2, k9⟩
      have o2 := Nw.ord_nanZ x9 (hx1 hn)
      clear hx1 hx2
      have k19 : Hid (Keep w w9) := k18.out.trans k9
      clear k9 k18
      go_wp2_with fail
      refine (hQ _).mono ?_
      rintro e w10 ⟨M, va, vb, rfl, m1, m2, qa, qb, k10⟩
      obtain ⟨aa, ca, la, rfl, la1, la2, la3, ra, oa, lca⟩ := qa.open
      obtain ⟨ab, cb, lb, rfl, lb1, lb2, lb3, rb, ob, lcb⟩ := qb.open
      have ha40 : la.length ≤ 40 := len_of la2 (by rw [la3]; exact bn.out)
      have hb40 : lb.length ≤ 40 := len_of lb2 (by rw [lb3]; exact bd.out)
      obtain ⟨s, hs⟩ : ∃ s, qS b = s := ⟨_, rfl⟩
      rw [hs]
      obtain ⟨w11, hw11⟩ : ∃ w11, w10.alloc (.cells #[.bool s, .slice aa la.length ca, .slice ab lb.length cb] 54) = w11 := ⟨_, rfl⟩
      have k11 : Keep w10 w11 := by rw [← hw11]; exact (Keep.refl w10).alloc _
      have B11 : Box w11 w10.heap.size (.bool s) (.slice aa la.length ca) (.slice ab lb.length cb) := by rw [← hw11]; exact Box.new w10 _ _ _
      obtain ⟨x0, x1, x2⟩ := B11.cells
      have hNr := pN_some s (.slice aa la.length ca) (.slice ab lb.length cb) (qN b) (qD b) 40 w11 ⟨aa, ca, la, rfl, lca, ha40, ra.rd.keep k11, la1, la3⟩ ⟨ab, cb, lb, rfl, lcb, hb40, rb.rd.keep k11, lb1, lb3⟩ (by omega) hdp.out
      have k21 : Hid (Keep w w11) := (k19.out.trans k10).trans k11
      have HN : Hid (Calls Tryz.prog 33 #[.agg #[.bool s, .slice aa la.length ca, .slice ab lb.length cb]] w11 fun e w' => e = .returned (.tuple #[.float .f64 0, .int .i64 0]) ∧ Keep w11 w') := by
        refine hNr.mono ?_
        rintro e w' ⟨x, rfl, q1, -, k⟩
        rw [q1 HQ.out]
        exact ⟨rfl, k⟩
      clear qa qb ra rb oa ob la1 la2 la3 lb1 lb2 lb3 lca lcb ha40 hb40 k10 k11 m1 m2 hNr hQ hs B11
      go_wp2_with fail
      refine HN.out.mono ?_
      rintro e w12 ⟨rfl, k12⟩
      go_wp2_with fail
      go_ret
      exact ⟨rfl, k21.out.trans k12⟩
    · have hqf : qB b = false := decide_eq_false (by omega)
      have hz : qZ b = 0 := by unfold qZ; rw [hqf]; rfl
      rw [hz] at hQ
      have hO := fin_orderB hb (qB_fin hqf)
      have hdp : Hid (0 < qD b) := qD_posB hqf
      have hO2 : (FloatKind.f64.format.order b 0 == some Ordering.eq) = false := by rw [hO]; exact decide_eq_false (by omega)
      have hO3 : (FloatKind.f64.format.order b 0 != some Ordering.eq) = true := by rw [bne, hO2]; rfl
      have HQ : Hid (∀ x : Nat, (0 < qN b → ∀ E, IsE (qN b) (qD b) E → x = wb (rup (sA (qN b) E) (sB (qD b) E)) E + sg (qS b)) → x = b) := fun x hx => near_back hb hq hx
      clear hz hO hq hqf
      have o1 := Nw.ord_nanZ u hn
      clear hin
      go_enter Tryz.func5, Tryz.ntmps5
      go_wp2_with fail
      refine (hB _).mono ?_
      rintro e w1 ⟨rfl, k1⟩
      go_wp2_with fail
      refine (hS.out _ k1).mono ?_
      rintro e w2 ⟨S1, rfl, hR1, k2⟩
      have b1 := fun wx => back_any S1 b hR1 wx
      clear hR1
      have k12 := k1.trans k2
      go_wp2_with fail
      refine (b1 _).mono ?_
      rintro e w3 ⟨rfl, k3⟩
      have k13 := k12.trans k3
      clear b1
      go_wp2_with fail
      refine (hE.out _ k13).mono ?_
      rintro e w4 ⟨S2, rfl, hR2, k4⟩
      have b2 := fun wx => back_any S2 b hR2 wx
      clear hR2
      have k14 := k13.trans k4
      go_wp2_with fail
      refine (b2 _).mono ?_
      rintro e w5 ⟨rfl, k5⟩
      have k15 := k14.trans k5
      clear b2
      go_wp2_with fail
      refine (hX.out _ k15).mono ?_
      rintro e w6 ⟨S3, rfl, hR3, k6⟩
      have b3 := fun wx => back_any S3 b hR3 wx
      clear hR3
      have k16 := k15.trans k6
      go_wp2_with fail
      refine (b3 _).mono ?_
      rintro e w7 ⟨rfl, k7⟩
      have k17 := k16.trans k7
      clear b3
      go_wp2_with fail
      refine (hN.out _ k17).mono ?_
      rintro e w8 ⟨S4, rfl, hR4, k8⟩
      have HR4 : Hid (Nw.RB S4 u) := hR4
      clear hR4
      have k18 : Hid (Keep w w8) := k17.trans k8
      clear k1 k2 k3 k4 k5 k6 k7 k8 k12 k13 k14 k15 k16 k17
      go_wp2_with fail
      refine (HR4.out _).mono ?_
      rintro e w9 ⟨x9, rfl, hx1, hx2, k9⟩
      have o2 := Nw.ord_nanZ x9 (hx1 hn)
      clear hx1 hx2
      have k19 : Hid (Keep w w9) := k18.out.trans k9
      clear k9 k18
      go_wp2_with fail
      refine (hQ _).mono ?_
      rintro e w10 ⟨M, va, vb, rfl, m1, m2, qa, qb, k10⟩
      obtain ⟨aa, ca, la, rfl, la1, la2, la3, ra, oa, lca⟩ := qa.open
      obtain ⟨ab, cb, lb, rfl, lb1, lb2, lb3, rb, ob, lcb⟩ := qb.open
      have ha40 : la.length ≤ 40 := len_of la2 (by rw [la3]; exact bn.out)
      have hb40 : lb.length ≤ 40 := len_of lb2 (by rw [lb3]; exact bd.out)
      obtain ⟨s, hs⟩ : ∃ s, qS b = s := ⟨_, rfl⟩
      rw [hs]
      obtain ⟨w11, hw11⟩ : ∃ w11, w10.alloc (.cells #[.bool s, .slice aa la.length ca, .slice ab lb.length cb] 54) = w11 := ⟨_, rfl⟩
      have k11 : Keep w10 w11 := by rw [← hw11]; exact (Keep.refl w10).alloc _
      have B11 : Box w11 w10.heap.size (.bool s) (.slice aa la.length ca) (.slice ab lb.length cb) := by rw [← hw11]; exact Box.new w10 _ _ _
      obtain ⟨x0, x1, x2⟩ := B11.cells
      have hNr := pN_some s (.slice aa la.length ca) (.slice ab lb.length cb) (qN b) (qD b) 40 w11 ⟨aa, ca, la, rfl, lca, ha40, ra.rd.keep k11, la1, la3⟩ ⟨ab, cb, lb, rfl, lcb, hb40, rb.rd.keep k11, lb1, lb3⟩ (by omega) hdp.out
      have k21 : Hid (Keep w w11) := (k19.out.trans k10).trans k11
      have HN : Hid (Calls Tryz.prog 33 #[.agg #[.bool s, .slice aa la.length ca, .slice ab lb.length cb]] w11 fun e w' => e = .returned (.tuple #[.float .f64 b, .int .i64 0]) ∧ Keep w11 w') := by
        refine hNr.mono ?_
        rintro e w' ⟨x, rfl, -, q1, k⟩
        rw [← hs] at q1
        rw [HQ.out x q1]
        exact ⟨rfl, k⟩
      clear qa qb ra rb oa ob la1 la2 la3 lb1 lb2 lb3 lca lcb ha40 hb40 k10 k11 m1 m2 hNr hQ hs B11
      go_wp2_with fail
      refine HN.out.mono ?_
      rintro e w12 ⟨rfl, k12⟩
      go_wp2_with fail
      go_ret
      exact ⟨rfl, k21.out.trans k12⟩
  · rcases hcase with hq | hq | hq
    · have hz : qZ b = 60 := by unfold qZ; rw [hq]; rfl
      rw [hz] at hQ
      have hA2 : bits .and .u64 ((b : Int) / 4503599627370496) 2047 = 2047 := by rw [andTopUB b hb, qB_field hq]; rfl
      clear hz hq
      have o1 := Nw.ord_selfZ u hn
      clear hin
      go_enter Tryz.func5, Tryz.ntmps5
      go_wp2_with fail
      refine (hB _).mono ?_
      rintro e w1 ⟨rfl, k1⟩
      go_wp2_with fail
      refine (hS.out _ k1).mono ?_
      rintro e w2 ⟨S1, rfl, hR1, k2⟩
      have b1 := fun wx => back_any S1 b hR1 wx
      clear hR1
      have k12 := k1.trans k2
      go_wp2_with fail
      refine (b1 _).mono ?_
      rintro e w3 ⟨rfl, k3⟩
      have k13 := k12.trans k3
      clear b1
      go_wp2_with fail
      refine (hE.out _ k13).mono ?_
      rintro e w4 ⟨S2, rfl, hR2, k4⟩
      have b2 := fun wx => back_any S2 b hR2 wx
      clear hR2
      have k14 := k13.trans k4
      go_wp2_with fail
      refine (b2 _).mono ?_
      rintro e w5 ⟨rfl, k5⟩
      have k15 := k14.trans k5
      clear b2
      go_wp2_with fail
      refine (hX.out _ k15).mono ?_
      rintro e w6 ⟨S3, rfl, hR3, k6⟩
      have b3 := fun wx => back_any S3 b hR3 wx
      clear hR3
      have k16 := k15.trans k6
      go_wp2_with fail
      refine (b3 _).mono ?_
      rintro e w7 ⟨rfl, k7⟩
      have k17 := k16.trans k7
      clear b3
      go_wp2_with fail
      refine (hN.out _ k17).mono ?_
      rintro e w8 ⟨S4, rfl, hR4, k8⟩
      have HR4 : Hid (Nw.RB S4 u) := hR4
      clear hR4
      have k18 : Hid (Keep w w8) := k17.trans k8
      clear k1 k2 k3 k4 k5 k6 k7 k8 k12 k13 k14 k15 k16 k17
      go_wp2_with fail
      refine (HR4.out _).mono ?_
      rintro e w9 ⟨x9, rfl, hx1, hx2, k9⟩
      obtain rfl := hx2 hn
      clear hx1 hx2
      have k19 : Hid (Keep w w9) := k18.out.trans k9
      clear k9 k18
      go_wp2_with fail
      refine (hQ _).mono ?_
      rintro e w10 ⟨M, va, vb, rfl, m1, m2, qa, qb, k10⟩
      obtain ⟨aa, ca, la, rfl, -⟩ := qa.open
      obtain ⟨ab, cb, lb, rfl, -⟩ := qb.open
      have k20 : Hid (Keep w w10) := k19.out.trans k10
      clear qa qb hQ k10 m1 m2
      go_wp2_with fail
      go_ret
      exact ⟨rfl, k20.out.alloc _⟩
    · have hqf : qB b = false := decide_eq_false (by omega)
      have hz : qZ b = 0 := by unfold qZ; rw [hqf]; rfl
      rw [hz] at hQ
      have hO := fin_orderB hb (qB_fin hqf)
      have hdp : Hid (0 < qD b) := qD_posB hqf
      have hO2 : (FloatKind.f64.format.order b 0 == some Ordering.eq) = true := by rw [hO]; exact decide_eq_true hq
      have HQ : Hid (qN b = 0) := qN_zero hq
      clear hz hO hq hqf
      have o1 := Nw.ord_selfZ u hn
      clear hin
      go_enter Tryz.func5, Tryz.ntmps5
      go_wp2_with fail
      refine (hB _).mono ?_
      rintro e w1 ⟨rfl, k1⟩
      go_wp2_with fail
      refine (hS.out _ k1).mono ?_
      rintro e w2 ⟨S1, rfl, hR1, k2⟩
      have b1 := fun wx => back_any S1 b hR1 wx
      clear hR1
      have k12 := k1.trans k2
      go_wp2_with fail
      refine (b1 _).mono ?_
      rintro e w3 ⟨rfl, k3⟩
      have k13 := k12.trans k3
      clear b1
      go_wp2_with fail
      refine (hE.out _ k13).mono ?_
      rintro e w4 ⟨S2, rfl, hR2, k4⟩
      have b2 := fun wx => back_any S2 b hR2 wx
      clear hR2
      have k14 := k13.trans k4
      go_wp2_with fail
      refine (b2 _).mono ?_
      rintro e w5 ⟨rfl, k5⟩
      have k15 := k14.trans k5
      clear b2
      go_wp2_with fail
      refine (hX.out _ k15).mono ?_
      rintro e w6 ⟨S3, rfl, hR3, k6⟩
      have b3 := fun wx => back_any S3 b hR3 wx
      clear hR3
      have k16 := k15.trans k6
      go_wp2_with fail
      refine (b3 _).mono ?_
      rintro e w7 ⟨rfl, k7⟩
      have k17 := k16.trans k7
      clear b3
      go_wp2_with fail
      refine (hN.out _ k17).mono ?_
      rintro e w8 ⟨S4, rfl, hR4, k8⟩
      have HR4 : Hid (Nw.RB S4 u) := hR4
      clear hR4
      have k18 : Hid (Keep w w8) := k17.trans k8
      clear k1 k2 k3 k4 k5 k6 k7 k8 k12 k13 k14 k15 k16 k17
      go_wp2_with fail
      refine (HR4.out _).mono ?_
      rintro e w9 ⟨x9, rfl, hx1, hx2, k9⟩
      obtain rfl := hx2 hn
      clear hx1 hx2
      have k19 : Hid (Keep w w9) := k18.out.trans k9
      clear k9 k18
      go_wp2_with fail
      refine (hQ _).mono ?_
      rintro e w10 ⟨M, va, vb, rfl, m1, m2, qa, qb, k10⟩
      obtain ⟨aa, ca, la, rfl, la1, la2, la3, ra, oa, lca⟩ := qa.open
      obtain ⟨ab, cb, lb, rfl, lb1, lb2, lb3, rb, ob, lcb⟩ := qb.open
      have ha40 : la.length ≤ 40 := len_of la2 (by rw [la3]; exact bn.out)
      have hb40 : lb.length ≤ 40 := len_of lb2 (by rw [lb3]; exact bd.out)
      obtain ⟨s, hs⟩ : ∃ s, qS b = s := ⟨_, rfl⟩
      rw [hs]
      obtain ⟨w11, hw11⟩ : ∃ w11, w10.alloc (.cells #[.bool s, .slice aa la.length ca, .slice ab lb.length cb] 54) = w11 := ⟨_, rfl⟩
      have k11 : Keep w10 w11 := by rw [← hw11]; exact (Keep.refl w10).alloc _
      have B11 : Box w11 w10.heap.size (.bool s) (.slice aa la.length ca) (.slice ab lb.length cb) := by rw [← hw11]; exact Box.new w10 _ _ _
      obtain ⟨x0, x1, x2⟩ := B11.cells
      have hNr := pN_some s (.slice aa la.length ca) (.slice ab lb.length cb) (qN b) (qD b) 40 w11 ⟨aa, ca, la, rfl, lca, ha40, ra.rd.keep k11, la1, la3⟩ ⟨ab, cb, lb, rfl, lcb, hb40, rb.rd.keep k11, lb1, lb3⟩ (by omega) hdp.out
      have k21 : Hid (Keep w w11) := (k19.out.trans k10).trans k11
      have HN : Hid (Calls Tryz.prog 33 #[.agg #[.bool s, .slice aa la.length ca, .slice ab lb.length cb]] w11 fun e w' => e = .returned (.tuple #[.float .f64 0, .int .i64 0]) ∧ Keep w11 w') := by
        refine hNr.mono ?_
        rintro e w' ⟨x, rfl, q1, -, k⟩
        rw [q1 HQ.out]
        exact ⟨rfl, k⟩
      clear qa qb ra rb oa ob la1 la2 la3 lb1 lb2 lb3 lca lcb ha40 hb40 k10 k11 m1 m2 hNr hQ hs B11
      go_wp2_with fail
      refine HN.out.mono ?_
      rintro e w12 ⟨rfl, k12⟩
      go_wp2_with fail
      go_ret
      exact ⟨rfl, k21.out.trans k12⟩
    · have hqf : qB b = false := decide_eq_false (by omega)
      have hz : qZ b = 0 := by unfold qZ; rw [hqf]; rfl
      rw [hz] at hQ
      have hO := fin_orderB hb (qB_fin hqf)
      have hdp : Hid (0 < qD b) := qD_posB hqf
      have hO2 : (FloatKind.f64.format.order b 0 == some Ordering.eq) = false := by rw [hO]; exact decide_eq_false (by omega)
      have hO3 : (FloatKind.f64.format.order b 0 != some Ordering.eq) = true := by rw [bne, hO2]; rfl
      have HQ : Hid (∀ x : Nat, (0 < qN b → ∀ E, IsE (qN b) (qD b) E → x = wb (rup (sA (qN b) E) (sB (qD b) E)) E + sg (qS b)) → x = b) := fun x hx => near_back hb hq hx
      clear hz hO hq hqf
      have o1 := Nw.ord_selfZ u hn
      clear hin
      go_enter Tryz.func5, Tryz.ntmps5
      go_wp2_with fail
      refine (hB _).mono ?_
      rintro e w1 ⟨rfl, k1⟩
      go_wp2_with fail
      refine (hS.out _ k1).mono ?_
      rintro e w2 ⟨S1, rfl, hR1, k2⟩
      have b1 := fun wx => back_any S1 b hR1 wx
      clear hR1
      have k12 := k1.trans k2
      go_wp2_with fail
      refine (b1 _).mono ?_
      rintro e w3 ⟨rfl, k3⟩
      have k13 := k12.trans k3
      clear b1
      go_wp2_with fail
      refine (hE.out _ k13).mono ?_
      rintro e w4 ⟨S2, rfl, hR2, k4⟩
      have b2 := fun wx => back_any S2 b hR2 wx
      clear hR2
      have k14 := k13.trans k4
      go_wp2_with fail
      refine (b2 _).mono ?_
      rintro e w5 ⟨rfl, k5⟩
      have k15 := k14.trans k5
      clear b2
      go_wp2_with fail
      refine (hX.out _ k15).mono ?_
      rintro e w6 ⟨S3, rfl, hR3, k6⟩
      have b3 := fun wx => back_any S3 b hR3 wx
      clear hR3
      have k16 := k15.trans k6
      go_wp2_with fail
      refine (b3 _).mono ?_
      rintro e w7 ⟨rfl, k7⟩
      have k17 := k16.trans k7
      clear b3
      go_wp2_with fail
      refine (hN.out _ k17).mono ?_
      rintro e w8 ⟨S4, rfl, hR4, k8⟩
      have HR4 : Hid (Nw.RB S4 u) := hR4
      clear hR4
      have k18 : Hid (Keep w w8) := k17.trans k8
      clear k1 k2 k3 k4 k5 k6 k7 k8 k12 k13 k14 k15 k16 k17
      go_wp2_with fail
      refine (HR4.out _).mono ?_
      rintro e w9 ⟨x9, rfl, hx1, hx2, k9⟩
      obtain rfl := hx2 hn
      clear hx1 hx2
      have k19 : Hid (Keep w w9) := k18.out.trans k9
      clear k9 k18
      go_wp2_with fail
      refine (hQ _).mono ?_
      rintro e w10 ⟨M, va, vb, rfl, m1, m2, qa, qb, k10⟩
      obtain ⟨aa, ca, la, rfl, la1, la2, la3, ra, oa, lca⟩ := qa.open
      obtain ⟨ab, cb, lb, rfl, lb1, lb2, lb3, rb, ob, lcb⟩ := qb.open
      have ha40 : la.length ≤ 40 := len_of la2 (by rw [la3]; exact bn.out)
      have hb40 : lb.length ≤ 40 := len_of lb2 (by rw [lb3]; exact bd.out)
      obtain ⟨s, hs⟩ : ∃ s, qS b = s := ⟨_, rfl⟩
      rw [hs]
      obtain ⟨w11, hw11⟩ : ∃ w11, w10.alloc (.cells #[.bool s, .slice aa la.length ca, .slice ab lb.length cb] 54) = w11 := ⟨_, rfl⟩
      have k11 : Keep w10 w11 := by rw [← hw11]; exact (Keep.refl w10).alloc _
      have B11 : Box w11 w10.heap.size (.bool s) (.slice aa la.length ca) (.slice ab lb.length cb) := by rw [← hw11]; exact Box.new w10 _ _ _
      obtain ⟨x0, x1, x2⟩ := B11.cells
      have hNr := pN_some s (.slice aa la.length ca) (.slice ab lb.length cb) (qN b) (qD b) 40 w11 ⟨aa, ca, la, rfl, lca, ha40, ra.rd.keep k11, la1, la3⟩ ⟨ab, cb, lb, rfl, lcb, hb40, rb.rd.keep k11, lb1, lb3⟩ (by omega) hdp.out
      have k21 : Hid (Keep w w11) := (k19.out.trans k10).trans k11
      have HN : Hid (Calls Tryz.prog 33 #[.agg #[.bool s, .slice aa la.length ca, .slice ab lb.length cb]] w11 fun e w' => e = .returned (.tuple #[.float .f64 b, .int .i64 0]) ∧ Keep w11 w') := by
        refine hNr.mono ?_
        rintro e w' ⟨x, rfl, -, q1, k⟩
        rw [← hs] at q1
        rw [HQ.out x q1]
        exact ⟨rfl, k⟩
      clear qa qb ra rb oa ob la1 la2 la3 lb1 lb2 lb3 lca lcb ha40 hb40 k10 k11 m1 m2 hNr hQ hs B11
      go_wp2_with fail
      refine HN.out.mono ?_
      rintro e w12 ⟨rfl, k12⟩
      go_wp2_with fail
      go_ret
      exact ⟨rfl, k21.out.trans k12⟩
end Go.Proofs.YtpdjpjkieafnbaaGreatDoor.Li
set_option linter.unusedVariables false
set_option linter.unusedSimpArgs false
namespace Go.Proofs.YtpdjpjkieafnbaaGreatDoor
open Go.ChangeShapes Go.WideShapes Go.ChangeAt Go.RowKit
theorem own : ownKnob Tryz.prog.godebug = none := by kernel_rfl
theorem laidOut : laidOutB Tryz.prog = true := by kernel_rfl
/-- A world in which all five tables hold what the texts lay. -/
def lay5 (W : World) : World :=
  { W with heap := ((((W.heap.modify 2 fun o => match o with
      | .cells _ t frozen => .cells (Lib.pow10Tab.map (fun n : Int => Value.int .u64 n)).toArray t frozen
      | o => o).modify 6 fun o => match o with
      | .cells _ t frozen => .cells (Lib.deBruijn32tab.map (fun n : Nat => Value.int .u8 (n : Int))).toArray t frozen
      | o => o).modify 1 fun o => match o with
      | .cells _ t frozen => .cells (Lib.deBruijn64tab.map (fun n : Nat => Value.int .u8 (n : Int))).toArray t frozen
      | o => o).modify 4 fun o => match o with
      | .cells _ t frozen => .cells (Pinned.utf8FirstZ.map (fun n : Nat => Value.int .u8 (n : Int))).toArray t frozen
      | o => o).modify 5 fun o => match o with
      | .cells _ t frozen => .cells (([128, 191, 160, 191, 128, 159, 144, 191, 128, 143] ++ List.replicate 22 0).map (fun n : Nat => Value.int .u8 (n : Int))).toArray t frozen
      | o => o }
theorem u64_of {n : Int} (h : (Lit.int .u64 n).wf = true) : ∃ m : Nat, n = (m : Int) ∧ m < 18446744073709551616 := by
  simp only [Lit.wf, IntKind.min, IntKind.max, IntKind.signed, IntKind.bits, Bool.and_eq_true, decide_eq_true_eq] at h
  simp at h
  exact ⟨n.toNat, by omega, by omega⟩
theorem u32_of {n : Int} (h : (Lit.int .u32 n).wf = true) : ∃ m : Nat, n = (m : Int) ∧ m < 4294967296 := by
  simp only [Lit.wf, IntKind.min, IntKind.max, IntKind.signed, IntKind.bits, Bool.and_eq_true, decide_eq_true_eq] at h
  simp at h
  exact ⟨n.toNat, by omega, by omega⟩
theorem gtabP : Tryz.prog.globalNamed "internal/strconv.uint64pow10" = some 2 := by kernel_rfl
theorem ltabP : (Rows.laid_internal_strconv_uint64pow10 : DataW Unit) = Lib.tabData .u64 Lib.pow10Tab := by kernel_rfl
/-- The library's table of powers, from what the row says of it: it stands third. -/
theorem tabP_of {W : World} (h : laidMet Tryz.prog [("math/bits.deBruijn32tab", Rows.laid_math_bits_deBruijn32tab), ("math/bits.deBruijn64tab", Rows.laid_math_bits_deBruijn64tab), ("internal/strconv.uint64pow10", Rows.laid_internal_strconv_uint64pow10), ("unicode/utf8.acceptRanges", Rows.laid_unicode_utf8_acceptRanges), ("unicode/utf8.first", Rows.laid_unicode_utf8_first)] W) : ∀ wx, Li.Keep W wx → Lib.TabIs Tryz.prog wx "internal/strconv.uint64pow10" .u64 Lib.pow10Tab := by
  rw [ltabP] at h
  obtain ⟨ps, ⟨_, _, _, _, _, q, _, _, _, _, ⟨_, _, _, _, _, q2, _, _, _, _, ⟨g', t', cs, fuel, p', q', hg', ht', hvar, hd, _, _⟩, _⟩, _⟩, _⟩ := h
  obtain rfl := Option.some.inj (gtabP.symm.trans hg')
  have hty : (Tryz.prog.globals[2]?).map (·.type) = some 220 := by kernel_rfl
  obtain rfl := Option.some.inj (hty.symm.trans ht')
  have h1 : Lib.TabIs Tryz.prog W "internal/strconv.uint64pow10" .u64 Lib.pow10Tab := by
    unfold Lib.TabIs
    rw [hvar, ← Lib.cells_of_tab Tryz.underlying220 Tryz.underlying26 (by kernel_rfl) (by kernel_rfl) hd]
  exact Lib.tabBelow_of_tabIs h1
theorem gtab64 : Tryz.prog.globalNamed "math/bits.deBruijn64tab" = some 1 := by kernel_rfl
theorem ltab64 : (Rows.laid_math_bits_deBruijn64tab : DataW Unit) = Lib.tabData .u8 (Lib.deBruijn64tab.map fun n : Nat => (n : Int)) := by kernel_rfl
/-- The library's table, from what the row says of it: it stands second. -/
theorem tab64_of5 {W : World} (h : laidMet Tryz.prog [("math/bits.deBruijn32tab", Rows.laid_math_bits_deBruijn32tab), ("math/bits.deBruijn64tab", Rows.laid_math_bits_deBruijn64tab), ("internal/strconv.uint64pow10", Rows.laid_internal_strconv_uint64pow10), ("unicode/utf8.acceptRanges", Rows.laid_unicode_utf8_acceptRanges), ("unicode/utf8.first", Rows.laid_unicode_utf8_first)] W) : Bi.Tab W := by
  rw [ltab64] at h
  obtain ⟨ps, ⟨_, _, _, _, _, q, _, _, _, _, ⟨g', t', cs, fuel, p', q', hg', ht', hvar, hd, _, _⟩, _⟩, _⟩ := h
  obtain rfl := Option.some.inj (gtab64.symm.trans hg')
  have hty : (Tryz.prog.globals[1]?).map (·.type) = some 179 := by kernel_rfl
  obtain rfl := Option.some.inj (hty.symm.trans ht')
  have h1 : Lib.TabIs Tryz.prog W "math/bits.deBruijn64tab" .u8 (Lib.deBruijn64tab.map fun n : Nat => (n : Int)) := by
    unfold Lib.TabIs
    rw [hvar, ← Lib.cells_of_tab Tryz.underlying179 Tryz.underlying5 (by kernel_rfl) (by kernel_rfl) hd]
  intro j hj
  have := h1.cell gtab64 j (by simpa using hj)
  rw [this]
  simp [List.getD, hj]
end Go.Proofs.YtpdjpjkieafnbaaGreatDoor
