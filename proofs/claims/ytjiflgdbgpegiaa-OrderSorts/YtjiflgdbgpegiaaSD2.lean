import Derived.Test.YtjiflgdbgpegiaaSD1
import Derived.Maps.OwnSet
import Derived.Maps.RangeWalk
set_option linter.unusedVariables false
set_option linter.unusedSimpArgs false
namespace Go.Proofs.Ytjiflgdbgpegiaa
open Go.RowKit Go.Shelf Go.Maps
/-- A key as it stands in a map. -/
def kL (k : Nat) : Lit := .int .u64 ((k : Nat) : Int)
theorem kL_inj {a b : Nat} (h : kL a = kL b) : a = b := by
  unfold kL at h
  injection h with _ h
  omega
theorem kL_wf {k : Nat} (h : k < 18446744073709551616) : (kL k).wf = true := by
  simp [kL, Lit.wf, IntKind.min, IntKind.max, IntKind.bits, IntKind.signed]
  omega
theorem kL_self (k : Nat) : (kL k).sameKey (kL k) = true := by simp [kL, Lit.sameKey]
theorem kL_ne {a b : Nat} (h : a ≠ b) : (kL a).sameKey (kL b) = false := sameKey_ne fun e => h (kL_inj e)
theorem law22 : Keyed Try.prog 22 := int_keyed Try.underlying22
/-- The keys that a map has. -/
def Met (D : DataW Unit) (l : List Nat) : Prop := IsMap D ∧ ∀ k : Nat, Maps.has D (kL k) = true ↔ ∃ y ∈ l, key y = k
theorem Met.nil : Met (.map []) [] := ⟨isMap_empty, fun k => by simp [Maps.has]⟩
theorem Met.put {D : DataW Unit} {l : List Nat} (h : Met D l) (x : Nat) (u : DataW Unit) : Met (D.put (kL (key x)) u) (l ++ [x]) := by
  refine ⟨h.1.put _ _, fun k => ?_⟩
  by_cases hk : k = key x
  · rw [hk, has_put_same h.1 (show WideAt.IsKeyLit (kL (key x)) from trivial)]
    exact ⟨fun _ => ⟨x, by simp, rfl⟩, fun _ => rfl⟩
  · rw [has_put_other (fun e => hk (kL_inj e)), h.2 k]
    constructor
    · rintro ⟨y, hy, r⟩; exact ⟨y, by simp [hy], r⟩
    · rintro ⟨y, hy, r⟩
      rcases List.mem_append.1 hy with q | q
      · exact ⟨y, q, r⟩
      · rw [List.mem_singleton.1 q] at r; exact absurd r.symm hk
/-- What has been met and what is still to come. -/
structure Clt (D : DataW Unit) (left : Lit → Bool) (ks : List Nat) : Prop where
  nodup : ks.Nodup
  mem : ∀ k, k ∈ ks ↔ Maps.has D (kL k) = true ∧ left (kL k) = false
theorem Clt.start (D : DataW Unit) : Clt D (Maps.has D) [] := ⟨List.nodup_nil, fun k => by
  constructor
  · intro h; cases h
  · rintro ⟨h1, h2⟩; rw [h1] at h2; cases h2⟩
theorem Clt.step {D : DataW Unit} {left : Lit → Bool} {ks : List Nat} (h : Clt D left ks) {k : Nat} (hl : left (kL k) = true) (hh : Maps.has D (kL k) = true) : Clt D (fun z => left z && !z.sameKey (kL k)) (ks ++ [k]) := by
  refine ⟨?_, fun j => ?_⟩
  · rw [List.nodup_append]
    refine ⟨h.nodup, by simp, ?_⟩
    intro a ha b hb
    rw [List.mem_singleton.1 hb]
    intro e
    subst e
    have := ((h.mem a).1 ha).2
    rw [hl] at this; cases this
  · rw [List.mem_append, h.mem, List.mem_singleton]
    by_cases hj : j = k
    · subst hj
      simp [hh, kL_self]
    · simp [hj, kL_ne hj]
theorem Clt.all {D : DataW Unit} {l : List Nat} (h : Met D l) {left : Lit → Bool} {ks : List Nat} (hc : Clt (D.del (kL 18437736874454810625)) left ks) (hl : ∀ z, left z = false) : ∀ k, k ∈ ks ↔ ∃ y ∈ l, ¬ isNaN y ∧ key y = k := by
  intro k
  rw [hc.mem]
  simp only [hl, and_true]
  by_cases hk : k = 18437736874454810625
  · rw [hk, has_del_same]
    constructor
    · intro q; cases q
    · rintro ⟨y, h1, h2, h3⟩; exact absurd (nan_key.2 h3) h2
  · rw [has_del_other (fun e => hk (kL_inj e)), h.2 k]
    constructor
    · rintro ⟨y, h1, h2⟩; exact ⟨y, h1, fun q => hk (by rw [← h2]; exact nan_key.1 q), h2⟩
    · rintro ⟨y, h1, _, h2⟩; exact ⟨y, h1, h2⟩
/-- What is asked of the library's sort. -/
def SortC : Prop := ∀ (B g cap n : Nat) (l : List Nat) (w : World), F64 l → l.length = n → n ≤ 17592186044414 → w.ownsRow B 23 1 (.slice (some ⟨g, 0, none⟩) n cap) n (UF l) →
  Calls Try.prog 67 #[.slice (some ⟨g, 0, none⟩) n cap, cmpF] w fun e w' => (∃ v, e = .returned v) ∧ (∃ M, M.Perm l ∧ (M.Pairwise fun x y => key x ≤ key y) ∧ w'.ownsRow B 23 1 (.slice (some ⟨g, 0, none⟩) n cap) n (UF M)) ∧ w.grownBy w' (some g)
theorem own_ne_map {w : World} {B E z b n m : Nat} {v : Value} {xs : List Value} {D : DataW Unit} {P : Program} {k : TypeId} {R : Value → Option (DataW Unit × List MemPlace)} (h : w.ownsRow B E z v n xs) (hm : w.ownsMap P k R b m D) : some b ≠ v.ownBlock := by
  intro e
  obtain ⟨-, cur, hh⟩ := own_block h e.symm
  obtain ⟨es, clock, hb, _⟩ := hm
  rw [hh] at hb; cases hb
theorem own_ne_iter {w : World} {B E z b r n m cnt : Nat} {v : Value} {xs : List Value} {D : DataW Unit} {P : Program} {k : TypeId} {R : Value → Option (DataW Unit × List MemPlace)} {left : Lit → Bool} (h : w.ownsRow B E z v n xs) (hm : w.ranges P k R b r m D left cnt) : some r ≠ v.ownBlock := by
  intro e
  obtain ⟨-, cur, hh⟩ := own_block h e.symm
  obtain ⟨es, clock, since, seen, c0, _, _, _, _, hr, _⟩ := hm
  rw [hh] at hr; cases hr
theorem own_grown {w w' : World} {B E z n : Nat} {v : Value} {xs : List Value} {row : Option Nat} (h : w.ownsRow B E z v n xs) (g : w.grownBy w' row) (hne : ∀ b, v.ownBlock = some b → some b ≠ row) : w'.ownsRow B E z v n xs := by
  refine ⟨h.1, ?_⟩
  rcases h.2 with h2 | ⟨b, cap, cur, hv, hg, hh, r⟩
  · exact .inl h2
  · refine .inr ⟨b, cap, cur, hv, hg, ?_, r⟩
    rw [g.block b (Array.getElem?_eq_some_iff.1 hh).1 (hne b (by rw [hv]; rfl))]
    exact hh
set_option maxRecDepth 100000 in
set_option maxHeartbeats 4000000 in
/-- Each number once. -/
theorem Distinct_of (hSort : SortC) (p : Option Addr) (c n : Nat) (l : List Nat) (w : World) (hF : F64 l) (hn : l.length = n) (hl : n ≤ 17592186044414) (hL : RdV w p l) :
    Calls Try.prog 42 #[.slice p n c] w fun e w' => ∃ g cap D, e = .returned (.slice (some ⟨g, 0, none⟩) D.length cap) ∧ Dst l D ∧ w'.ownsRow w.heap.size 23 1 (.slice (some ⟨g, 0, none⟩) D.length cap) D.length (UF D) ∧ Keep w w' := by
  have HL : Hid (∀ i, i < n → ∃ g o, p = some ⟨g, o, none⟩ ∧ w.cell? ⟨g, o + i, none⟩ = some (.float .f64 (l.getD i 0))) := fun i hi => hL i (by omega)
  have HN : Hid (l.length = n) := hn
  have HF : Hid (F64 l) := hF
  have hmm := @run_makeMap Try.prog
  clear hL hn hF
  go_enter Try.func42, Try.ntmps42
  go_wp2_with fail
  have hst : Hid ((w.alloc (.map #[] 0)).ownsMap (H := Unit) Try.prog 22 (unitElem (H := Unit)) w.heap.size 0 (.map [])) := World.ownsMap_made _ _ _ _
  go_loopw [13] (fun iv wr => ∃ (i : Nat) (D : DataW Unit), iv = .int .i64 (i : Int) ∧ i ≤ n ∧ Hid (Met D (l.take i)) ∧ wr.ownsMap (H := Unit) Try.prog 22 (unitElem (H := Unit)) w.heap.size i D ∧ Keep w wr) (fun iv _ => n - (intOf iv).toNat)
  case atStart => exact ⟨0, _, rfl, by omega, Met.nil, hst.out, (Keep.refl w).alloc _⟩
  case round =>
    obtain ⟨i, D, rfl, hi, hD, hown, kw⟩ := hrel
    by_cases hin : i < n
    · have hic : (i : Int) < (n : Int) := by omega
      obtain ⟨g, o, rfl, cx0⟩ := HL.out i hin
      have cx := kw.cell cx0
      obtain ⟨x, hx⟩ : ∃ x, l.getD i 0 = x := ⟨_, rfl⟩
      have hil : i < l.length := by rw [HN.out]; exact hin
      have hx64 : x < 18446744073709551616 := by rw [← hx]; exact HF.out.at i hil
      have HT : Hid (l.take (i + 1) = l.take i ++ [x]) := by show _ = _; rw [List.take_add_one, ← hx]; simp [List.getD, hil]
      rw [hx] at cx
      have hKx := fun wx => Key_any x wx hx64
      have hwf : (Lit.int .u64 ((key x : Nat) : Int)).wf = true := kL_wf (by have := key_le x; omega)
      clear hx cx0 hil
      go_wp2_with (first
        | (go_at_call 14; refine (hKx _).mono ?_; rintro e w2 ⟨rfl, hw2⟩; rw [hw2]; clear hw2 w2)
        | (at_mapUpdate; refine wpList_mapUpdate_own _ rfl _ _ _ 93 rfl 22 94 law22 Try.underlying93 (unitElem (H := Unit)) w.heap.size i D rfl hown (by unfold maxLen; omega) _ _ _ rfl rfl (keyOf_int_mk Try.underlying22 hwf) _ [] unitElem_mk ?_; intro w3 hown3 hg3)
        | go_in)
      have k3 : Keep w w3 := Below.grown kw hg3 kw.le (fun b hb => by cases hb; exact Nat.le_refl _)
      refine ⟨⟨i + 1, _, by go_num, by omega, ?_, hown3, k3⟩, ?_⟩
      · show Met _ _
        rw [HT.out]
        exact hD.out.put x _
      · simp [intOf]; omega
    · have hic : ¬ (i : Int) < (n : Int) := by omega
      obtain rfl : i = n := by omega
      have HD : Hid (Met D l) := by have := hD.out; rw [← HN.out, List.take_length] at this; exact this
      obtain ⟨i0, hi0, hz0, hz1, hz2⟩ := info_parts i23
      have hsz1 : Hid (i0.size = 1) := hz1
      have hdel : keyOf Try.prog 22 (.int .u64 18437736874454810625) = some (kL 18437736874454810625) := keyOf_int_mk Try.underlying22 (kL_wf (k := 18437736874454810625) (by omega))
      clear hD
      go_wp2_with (first
        | (at_delete; refine wpList_delete_own _ rfl _ _ 93 22 rfl 94 law22 Try.underlying93 (unitElem (H := Unit)) w.heap.size i D rfl hown _ _ rfl hdel ?_; intro w4 hown4 ht4; obtain ⟨s, hs⟩ : ∃ s, Maps.size (D.del (kL 18437736874454810625)) = s := ⟨_, rfl⟩; have hsn : s ≤ i := by rw [← hs]; exact hown4.size_le)
        | (at_len; refine wpList_len_own _ rfl _ 93 rfl 22 94 Try.underlying93 (unitElem (H := Unit)) w.heap.size i _ rfl hown4 ?_; rw [hs])
        | (at_make; refine wpList_make_own _ rfl _ _ 62 rfl w.heap.size 23 i0 _ 1 Try.underlying62 hi0 hz0 hz1 _ _ _ s rfl rfl rfl (by rw [hz2]; omega) (by unfold maxLen; omega) (by have := ht4.grown.size; have := kw.le; omega) ?_; intro w5 hrow5 hg5)
        | (at_range; refine wpList_range_own _ rfl _ 93 rfl 22 94 law22 Try.underlying93 (unitElem (H := Unit)) w.heap.size i _ rfl (hown4.kept hg5 (by simp)) ?_; intro w6 hrg6 hg6 hs6)
        | go_in)
      have k4 : Keep w w4 := Below.grown kw ht4.grown kw.le (fun b hb => by cases hb; exact Nat.le_refl _)
      have k5 : Keep w w5 := Below.grown k4 hg5 k4.le (fun b hb => by cases hb)
      have k6 : Hid (Keep w w6) := Below.grown k5 hg6 k5.le (fun b hb => by cases hb)
      have hrow6 : Hid (w6.ownsRow w.heap.size 23 1 (.slice (some ⟨w4.heap.size, 0, none⟩) 0 s) 0 (UF (([] : List Nat).map aK))) := own_grown hrow5 hg6 (fun b hb e => by cases e)
      rw [hs] at hrg6
      have hrg60 : Hid (w6.ranges (H := Unit) Try.prog 22 (unitElem (H := Unit)) w.heap.size w5.heap.size i (D.del (kL 18437736874454810625)) (Maps.has (D.del (kL 18437736874454810625))) s) := hrg6
      have hle5 : w.heap.size ≤ w5.heap.size := k5.le
      have hAt : ∀ k wx, Calls Try.prog 12 #[.int .u64 ((k : Nat) : Int)] wx fun e w' => e = .returned (.tuple #[.float .f64 (aK k), .int .i64 (atE k)]) ∧ w' = wx := fun k wx => At_any k wx
      clear hown kw hown4 ht4 hg5 hg6 hs6 hrg6 hrow5 k4 k5 hs
      go_loopw [6] (fun v wr => ∃ (left : Lit → Bool) (cnt : Nat) (ks : List Nat) (m : Nat), v = .slice (some ⟨w4.heap.size, 0, none⟩) m s ∧ Hid (ks.length = m) ∧ wr.ranges (H := Unit) Try.prog 22 (unitElem (H := Unit)) w.heap.size w5.heap.size i (D.del (kL 18437736874454810625)) left cnt ∧ Hid (Clt (D.del (kL 18437736874454810625)) left ks) ∧ m + cnt ≤ s ∧ wr.ownsRow w.heap.size 23 1 (.slice (some ⟨w4.heap.size, 0, none⟩) m s) m (UF (ks.map aK)) ∧ Keep w wr) (fun _ wr => wr.rangeLeft w.heap.size w5.heap.size)
      case atStart => exact ⟨_, s, [], 0, rfl, rfl, hrg60.out, Clt.start _, by omega, hrow6.out, k6.out⟩
      case round =>
        obtain ⟨left, cnt, ks, m, rfl, hm, hrg, hc, hms, hown, kw⟩ := hrel
        clear hrg60 hrow6 k6
        go_wp2_with (first
          | (at_next; refine wpList_next_ranges _ rfl _ rfl 22 law22 (unitElem (H := Unit)) (Value.int .u64) (fun _ : Unit => Value.agg #[]) (fun key kl hkey => by obtain ⟨x, rfl, _⟩ := Maps.keyOf_int_inv Try.underlying22 hkey; exact ⟨x, rfl⟩) (fun v y hv => ⟨(), (unitElem_inv hv).1⟩) w.heap.size w5.heap.size i _ _ _ rfl hrg ?_ ?_)
          | go_in)
        · intro _ hl0
          have HE : Hid (∀ M : List Nat, M.Perm (ks.map aK) → (M.Pairwise fun x y => key x ≤ key y) → Dst l M ∧ M.length = m) := by
            intro M h1 h2
            refine ⟨Dst.of_keys (Clt.all HD.out hc.out hl0) hc.out.nodup h1 h2, ?_⟩
            rw [h1.length_eq, List.length_map]; exact hm.out
          have hF2 : F64 (ks.map aK) := by
            intro x hx
            obtain ⟨k, _, rfl⟩ := List.mem_map.1 hx
            exact aK_lt k
          have hS := fun wx (hw : wx.ownsRow w.heap.size 23 1 (.slice (some ⟨w4.heap.size, 0, none⟩) m s) m (UF (ks.map aK))) => hSort w.heap.size w4.heap.size s m (ks.map aK) wx hF2 (by rw [List.length_map]; exact hm.out) (by omega) hw
          have hgw : w.heap.size ≤ w4.heap.size := by
            obtain ⟨h1, -⟩ := own_block hown (b := w4.heap.size) rfl
            exact h1
          go_wp2_with (go_at_call 67; refine (hS _ hown).mono ?_; rintro e w9 ⟨⟨v, rfl⟩, ⟨M, p1, p2, p3⟩, g9⟩)
          go_ret
          obtain ⟨q1, q2⟩ := HE.out M p1 p2
          rw [← q2] at p3 ⊢
          refine ⟨_, _, M, rfl, q1, p3, Below.grown kw g9 kw.le (fun b hb => by cases hb; exact hgw)⟩
        · intro x c2 kl yd w7 cnt7 hkey hlk hv hat hrg7 hlt hg7 hs7 hen
          obtain ⟨x', ex, rfl, hwf⟩ := Maps.keyOf_int_inv Try.underlying22 hkey
          cases ex
          obtain ⟨k, hk⟩ : ∃ k : Nat, x = ((k : Nat) : Int) := ⟨x.toNat, by simp [Lit.wf, IntKind.min, IntKind.max, IntKind.bits, IntKind.signed] at hwf; omega⟩
          subst hk
          have hcn : Hid (Clt (D.del (kL 18437736874454810625)) (fun z => left z && !z.sameKey (kL k)) (ks ++ [k])) := hc.out.step hlk (has_true_of_atKey hat)
          have hown7 := own_grown hown hg7 (fun b hb e => own_ne_iter hown hrg (by rw [hb]; exact e.symm))
          have k7 : Keep w w7 := Below.grown kw hg7 kw.le (fun b hb => by cases hb; exact hle5)
          have hl7 := hrg.left_eq
          have HM1 : Hid ((ks ++ [k]).length = m + 1) := by show _ = _; rw [List.length_append, hm.out]; rfl
          have hAk := hAt k
          have HU : Hid (UF ((ks ++ [k]).map aK) = UF (ks.map aK) ++ UF [aK k]) := by show _ = _; simp [UF]
          clear hs7 hown hg7 hkey hlk hv hat hwf kw hAt
          go_wp2_with (first
            | (go_at_call 12; refine (hAk _).mono ?_; rintro e w8 ⟨rfl, hw8⟩; rw [hw8]; clear hw8 w8)
            | (at_builtin; refine wpList_append_fits _ rfl _ _ 62 rfl w.heap.size 23 i0 1 Try.underlying62 hi0 hz1 w4.heap.size m s (UF (ks.map aK)) rfl (own_keep hown7 ((Keep.refl _).alloc _)) ⟨w7.heap.size, 0, none⟩ 1 1 (UF [aK k]) rfl rfl (newsF w7 (aK k)) (UF_one _) (by omega) ?_; intro w9 hown9 hg9)
            | go_in)
          have hra := hrg7.alloc (Obj.cells #[Value.float .f64 (aK k)] 23)
          have hoa := own_keep hown7 ((Keep.refl w7).alloc (Obj.cells #[Value.float .f64 (aK k)] 23))
          have hrg9 := hra.kept hg9 (own_ne_map hoa hra.owns) (own_ne_iter hoa hra)
          have hgw : w.heap.size ≤ w4.heap.size := (own_block hown7 (b := w4.heap.size) rfl).1
          have k9 : Keep w w9 := Below.grown (k7.alloc _) hg9 (k7.alloc _).le (fun b hb => by cases hb; exact hgw)
          refine ⟨⟨_, cnt7, ks ++ [k], m + 1, rfl, HM1, hrg9, hcn, by omega, ?_, k9⟩, ?_⟩
          · rw [HU.out]; exact hown9
          · rw [hrg9.left_eq, hl7]; exact hlt
end Go.Proofs.Ytjiflgdbgpegiaa
