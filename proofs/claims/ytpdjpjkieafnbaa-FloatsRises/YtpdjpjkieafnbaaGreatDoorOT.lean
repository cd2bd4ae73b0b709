import Derived.Test.YtpdjpjkieafnbaaGreatDoorNX1
import Derived.Test.YtpdjpjkieafnbaaGreatDoorRI1
import Derived.Test.YtpdjpjkieafnbaaGreatDoorH5
import Derived.Test.YtpdjpjkieafnbaaGreatDoorOO
set_option linter.unusedVariables false
set_option linter.unusedSimpArgs false
namespace Go.Proofs.YtpdjpjkieafnbaaGreatDoor.Li
open Go.RowKit Lb Nr
/-- The digits that are not less. -/
def mrD (l ad : List UInt8) (i : Nat) : UInt8 := UInt8.ofNat ((l.getD i 0).toNat % 10 + (if i < ad.length then (ad.getD i 0).toNat % (10 - (l.getD i 0).toNat % 10) else 0))
def mr (l ad : List UInt8) : List UInt8 := (List.range l.length).map (mrD l ad)
theorem mr_len (l ad : List UInt8) : (mr l ad).length = l.length := by unfold mr; simp
theorem mr_take (l ad : List UInt8) (i : Nat) (h : i < l.length) : (mr l ad).take (i + 1) = (mr l ad).take i ++ [mrD l ad i] := by
  have hi : i < (mr l ad).length := by rw [mr_len]; exact h
  rw [List.take_succ_eq_append_getElem hi]
  have e : (mr l ad)[i] = mrD l ad i := by simp only [mr, List.getElem_map, List.getElem_range]
  rw [e]
theorem mrD_val (l ad : List UInt8) (i : Nat) : (mrD l ad i).toNat = (l.getD i 0).toNat % 10 + (if i < ad.length then (ad.getD i 0).toNat % (10 - (l.getD i 0).toNat % 10) else 0) ∧ (mrD l ad i).toNat < 10 ∧ (l.getD i 0).toNat % 10 ≤ (mrD l ad i).toNat := by
  unfold mrD
  have h1 : (l.getD i 0).toNat % 10 < 10 := Nat.mod_lt _ (by omega)
  generalize (l.getD i 0).toNat % 10 = d at *
  have hv : d + (if i < ad.length then (ad.getD i 0).toNat % (10 - d) else 0) < 10 := by
    split
    · have := Nat.mod_lt (ad.getD i 0).toNat (show 0 < 10 - d by omega)
      omega
    · omega
  generalize (if i < ad.length then (ad.getD i 0).toNat % (10 - d) else 0) = r at *
  have e : (UInt8.ofNat (d + r)).toNat = d + r := by
    rw [UInt8.toNat_ofNat']
    exact Nat.mod_eq_of_lt (by omega)
  rw [e]
  exact ⟨rfl, hv, by omega⟩
theorem nat_mono : ∀ (A B : List UInt8), A.length = B.length → (∀ i, i < A.length → dv (A.getD i 0) ≤ dv (B.getD i 0)) → nat A ≤ nat B
  | [], [], _, _ => Nat.le_refl _
  | a :: A, b :: B, h, g => by
    rw [nat_cons, nat_cons]
    have hl : A.length = B.length := by simpa using h
    have h0 := g 0 (by simp)
    have h1 := nat_mono A B hl (fun i hi => by have := g (i + 1) (by simp; omega); simpa using this)
    rw [hl]
    have h2 : dv a * 10 ^ B.length ≤ dv b * 10 ^ B.length := Nat.mul_le_mul_right _ (by simpa using h0)
    omega
  | [], _ :: _, h, _ => by simp at h
  | _ :: _, [], h, _ => by simp at h
theorem dch_dv (b : UInt8) : dv (dch b) = b.toNat % 10 := (dig_ok (Nat.mod_lt _ (by omega))).2
theorem tD_mono (l ad : List UInt8) : nat (tD l) ≤ nat (tD (mr l ad)) := by
  unfold tD
  by_cases h : l = []
  · have : mr l ad = [] := by rw [h]; rfl
    rw [if_pos h, if_pos this]
    exact Nat.le_refl _
  · have hm : mr l ad ≠ [] := fun c => h (List.length_eq_zero_iff.1 (by rw [← mr_len l ad, c]; rfl))
    rw [if_neg h, if_neg hm]
    apply nat_mono
    · rw [List.length_map, List.length_map, mr_len]
    · intro i hi
      rw [List.length_map] at hi
      have e1 : (l.map dch).getD i 0 = dch (l.getD i 0) := by simp [List.getD, hi]
      have e2 : ((mr l ad).map dch).getD i 0 = dch (mrD l ad i) := by unfold mr; simp [List.getD, hi]
      rw [e1, e2, dch_dv, dch_dv]
      have := mrD_val l ad i
      omega
theorem tK_mr (l ad : List UInt8) (p : Int) : tK (mr l ad) p = tK l p := by unfold tK; rw [mr_len]
theorem txt_full (ng ns : Bool) (l E : List UInt8) (p : Int) : (if ng then [45] else []) ++ (plT l p ++ ptx ns E) = dtx ng (tA l p) (tB l p) (ptx ns E) := by
  rw [plT_txt]
  unfold dtx
  simp
theorem plT_size (l : List UInt8) (p : Int) : (plT l p).length = (if l.length = 0 then 1 else l.length) + (if tK l p = 0 then 0 else 1) := by
  rw [plT_txt]
  unfold dtx
  have h2 := congrArg List.length (tAB l p)
  have h3 : (tD l).length = if l.length = 0 then 1 else l.length := by
    unfold tD
    by_cases h : l = []
    · rw [if_pos h, h]; rfl
    · rw [if_neg h, List.length_map, if_neg (fun c => h (List.length_eq_zero_iff.1 c))]
  rw [List.length_append, h3] at h2
  by_cases h : tK l p = 0
  · have hB := (tB_nil l p).2 h
    rw [hB] at h2 ⊢
    rw [if_pos h, ← h2]
    simp
  · have hB : tB l p ≠ [] := fun c => h ((tB_nil l p).1 c)
    rw [if_neg h, if_neg hB, ← h2]
    simp
    omega
/-- What is read of such a text. -/
def rN (l : List UInt8) (p : Int) (V : Int) : Nat := nat (tD l) * 10 ^ (V - (tK l p : Int)).toNat
def rD (l : List UInt8) (p : Int) (V : Int) : Nat := 10 ^ (-(V - (tK l p : Int))).toNat
theorem rD_pos (l : List UInt8) (p V : Int) : 0 < rD l p V := Nat.pow_pos (by omega)
theorem rN_mono (l ad : List UInt8) (p V : Int) : rN l p V ≤ rN (mr l ad) p V := by
  unfold rN
  rw [tK_mr]
  exact Nat.mul_le_mul_right _ (tD_mono l ad)
theorem rD_mr (l ad : List UInt8) (p V : Int) : rD (mr l ad) p V = rD l p V := by unfold rD; rw [tK_mr]
theorem Read_pl (ng ns : Bool) (l E : List UInt8) (p : Int) (hE : allD E) (hE0 : E ≠ []) (w : World) (hl : ((if ng then [45] else []) ++ (plT l p ++ ptx ns E)).length ≤ 4096) :
    Calls Tryz.prog 12 #[.string ⟨((if ng then [45] else []) ++ (plT l p ++ ptx ns E)).toArray⟩] w fun e w' =>
      ∃ x : Nat, e = .returned (.tuple #[.float .f64 (x + sg ng), .int .i64 0, .int .i64 0]) ∧ NB (rN l p (pwN ns E)) (rD l p (pwN ns E)) x ∧ Keep w w' := by
  rw [txt_full] at hl ⊢
  have h := Read_txt ng (tA l p) (tB l p) (ptx ns E) (pwN ns E) (tA_all l p) (tA_ne l p) (tB_all l p) (.inr ⟨ns, E, rfl, hE, hE0, rfl⟩) hl w
  rw [tAB, tB_len] at h
  exact h
theorem Read32_pl (ng ns : Bool) (l E : List UInt8) (p : Int) (hE : allD E) (hE0 : E ≠ []) (w : World) (hl : ((if ng then [45] else []) ++ (plT l p ++ ptx ns E)).length ≤ 4096) :
    Calls Tryz.prog 16 #[.string ⟨((if ng then [45] else []) ++ (plT l p ++ ptx ns E)).toArray⟩] w fun e w' =>
      ∃ x : Nat, e = .returned (.tuple #[.float .f32 (x + Nw.sg ng), .int .i64 0, .int .i64 0]) ∧ Nw.NB (rN l p (pwN ns E)) (rD l p (pwN ns E)) x ∧ Keep w w' := by
  rw [txt_full] at hl ⊢
  have h := Nw.Read_txt ng (tA l p) (tB l p) (ptx ns E) (pwN ns E) (tA_all l p) (tA_ne l p) (tB_all l p) (.inr ⟨ns, E, rfl, hE, hE0, rfl⟩) hl w
  rw [tAB, tB_len] at h
  exact h
/-- Bytes of one's own, grown by append. -/
def U5 (l : List UInt8) : List Value := l.map (fun x => Value.int .u8 (x.toNat : Nat))
def Own5 (B : Nat) (w : World) (v : Value) (l : List UInt8) : Prop := w.ownsRow B 5 1 v l.length (U5 l)
theorem i5b : (Tryz.prog.info? 5).map (fun i => (i.zero, i.size, i.bytes)) = some (some (.int .u8 0), 1, 1) := by kernel_rfl
theorem Own5.nil (B : Nat) (w : World) : Own5 B w (.slice none 0 0) [] := ⟨by simp [U5], .inl ⟨rfl, rfl⟩⟩
theorem Own5.rd {B : Nat} {w : World} {v : Value} {l : List UInt8} (h : Own5 B w v l) : ∃ a c, v = .slice a l.length c ∧ Rd5 w a l := by
  rcases h.2 with ⟨h1, h2⟩ | ⟨g, cap, cur, hv, hg, hh, r1, r2, r3, r4⟩
  · exact ⟨none, 0, by rw [h1, h2], fun i hi => by omega⟩
  · refine ⟨some ⟨g, 0, none⟩, cap, hv, fun i hi => ⟨g, 0, rfl, ?_⟩⟩
    rw [Nat.mul_one] at r4
    have e : cur.toList[i]? = (U5 l)[i]? := by rw [← r4, List.getElem?_take, if_pos (by omega)]
    rw [Nat.zero_add, cell_of_row w g i cur 5 (0, 0) hh]
    have : cur[i]? = cur.toList[i]? := by simp
    rw [this, e]
    simp [U5, List.getD, hi]
theorem wpList_app5 {w0 wr : World} {ops : Array Oper} {rest : List Oper} {o : Oper} {a : Act} {Q : Exit → Act → World → Prop} (hgd : o.guard = none) (s x : Operand)
    (ho : o.op = .call { callee := .builtin .append, args := #[s, x], argTypes := #[61, 61] }) (l : List UInt8) (v : Value) (hs : a.eval s = v) (Y : Int) (y : UInt8) (hY : Y = (y.toNat : Int))
    (hx : a.eval x = .slice (some ⟨wr.heap.size, 0, none⟩) 1 1) (hown : Own5 w0.heap.size wr v l) (hk : Keep w0 wr) (hlen : l.length + 1 ≤ 140737488355328)
    (hK : ∀ v' w1, Own5 w0.heap.size w1 v' (l ++ [y]) → Keep w0 w1 → wpList Tryz.prog ops Q rest (a.put o.dst v') w1) :
    wpList Tryz.prog ops Q (o :: rest) a (wr.alloc (.cells #[.int .u8 Y] 5)) := by
  obtain ⟨i0, hi, hz0, hz1, hz2⟩ := info_parts i5b
  subst hY
  refine wpList_append_own _ hgd s x 61 ho w0.heap.size 5 i0 (.int .u8 0) 1 1 Tryz.underlying61 hi hz0 hz1 hz2 rfl (by decide) v _ _ hs (World.ownsRow.alloc hown _) ⟨wr.heap.size, 0, none⟩ 1 1 [.int .u8 (y.toNat : Int)] hx rfl ?_ ?_ ?_ ?_ ?_ ?_
  · intro j u hj
    match j, hj with
    | 0, hj => simp at hj; subst hj; simp [Addr.add]
  · intro u hu; simp at hu; subst hu; rfl
  · simp only [maxLen]; omega
  · omega
  · have := hk.le; simp; omega
  · intro v' w1 h1 h2 _
    refine hK v' w1 ?_ ?_
    · unfold Own5; simpa [U5] using h1
    · refine Below.grown (hk.alloc _) h2 (by have := hk.le; simp; omega) ?_
      intro k hk'
      have := World.ownsRow.lt hown k hk'
      exact this.1
end Go.Proofs.YtpdjpjkieafnbaaGreatDoor.Li
set_option linter.unusedVariables false
set_option linter.unusedSimpArgs false
namespace Go.Proofs.YtpdjpjkieafnbaaGreatDoor.Li
open Go.RowKit Lb Nr
theorem tail_eq (z : Int) (E : List UInt8) : (101 :: ((if z < 0 then [45] else []) ++ E) : List UInt8) = ptx (decide (z < 0)) E := by
  unfold ptx
  by_cases h : z < 0
  · rw [if_pos h, if_pos (decide_eq_true h)]
  · rw [if_neg h, if_neg (by simpa using h)]
set_option maxRecDepth 100000 in
set_option maxHeartbeats 4000000 in
theorem law_frises (a0 a1 : Option Addr) (c0 c1 : Nat) (l ad : List UInt8) (p z : Int) (w : World) (hl : l.length ≤ 140737488351232) (hal : ad.length ≤ 140737488351232) (hz1 : -128 ≤ z) (hz2 : z ≤ 127) (hr0 : Rd5 w a0 l) (hr1 : Rd5 w a1 ad) :
    Calls Tryz.prog 6 #[.slice a0 l.length c0, .slice a1 ad.length c1, .int .i64 p, .int .i8 z] w fun e w' => e = .returned (.bool true) ∧ Keep w w' := by
  have hB := fun wx => begins_any wx
  have hSg := fun wx => signT3_any z wx (by omega) (by omega)
  go_enter Tryz.func6, Tryz.ntmps6
  go_wp2_with fail
  refine (hB _).mono ?_
  rintro e w1 ⟨rfl, k1⟩
  go_wp2_with fail
  refine (hSg _).mono ?_
  rintro e w2 ⟨E, rfl, e1, e2, e3, e4, k2⟩
  obtain ⟨S, hS⟩ : ∃ S, (if z < 0 then [45] else []) ++ E = S := ⟨_, rfl⟩
  have hSl : S.length ≤ 4 := by
    rw [← hS, List.length_append]
    split <;> simp <;> omega
  have HT : Hid ((101 :: S : List UInt8) = ptx (decide (z < 0)) E) := by
    unfold Hid
    rw [← hS]
    exact tail_eq z E
  rw [hS]
  have hcat : (ByteArray.mk #[101]) ++ ByteArray.mk S.toArray = ⟨(101 :: S).toArray⟩ := catB [101] S
  have hszS : (ByteArray.mk S.toArray).size = S.length := sz_mk S
  have HE : Hid (allD E ∧ E ≠ []) := ⟨e1, e2⟩
  have K2 : Hid (Keep w w2) := k1.trans k2
  clear hS hSg hB e1 e2 e3 e4 k1 k2
  go_wp2_with fail
  go_loopg [10, 11] (l.length) (fun g v10 v11 wr => ∃ i : Nat, i + g = l.length ∧ Own5 w2.heap.size wr v10 ((mr l ad).take i) ∧ v11 = .int .i64 (i : Int) ∧ Keep w2 wr)
  case atStart => exact ⟨0, by omega, Own5.nil _ _, rfl, Keep.refl _⟩
  case round =>
    obtain ⟨i, hig, hO, rfl, kr⟩ := hrel
    by_cases hil : i < l.length
    · have hlt : (i : Int) < (l.length : Int) := by omega
      obtain ⟨b, o, rfl, hc⟩ := (hr0.keep (K2.out.trans kr)) i hil
      have hval := mrD_val l ad i
      have htk := mr_take l ad i hil
      have hlen : ((mr l ad).take i).length = i := by rw [List.length_take, mr_len]; omega
      have hx8 := (l.getD i 0).toNat_lt
      obtain ⟨x, hx⟩ : ∃ x, (l.getD i 0).toNat = x := ⟨_, rfl⟩
      rw [hx] at hc hval hx8
      have hmod : Int.tmod (x : Int) 10 = ((x % 10 : Nat) : Int) := by rw [Int.ofNat_tmod]; rfl
      have hml : x % 10 < 10 := Nat.mod_lt _ (by omega)
      obtain ⟨d, hd⟩ : ∃ d, x % 10 = d := ⟨_, rfl⟩
      rw [hd] at hmod hml hval
      obtain ⟨y, hy⟩ : ∃ y, mrD l ad i = y := ⟨_, rfl⟩
      rw [hy] at hval htk
      have Htk : Hid ((mr l ad).take (i + 1) = (mr l ad).take i ++ [y]) := htk
      obtain ⟨T, hT⟩ : ∃ T, (mr l ad).take i = T := ⟨_, rfl⟩
      rw [hT] at hO hlen Htk
      clear hx hd hy htk hT
      by_cases hia : i < ad.length
      · have hlt2 : (i : Int) < (ad.length : Int) := by omega
        obtain ⟨b2, o2, rfl, hc2⟩ := (hr1.keep (K2.out.trans kr)) i hia
        rw [if_pos hia] at hval
        have hy8 := (ad.getD i 0).toNat_lt
        obtain ⟨t, ht⟩ : ∃ t, (ad.getD i 0).toNat = t := ⟨_, rfl⟩
        rw [ht] at hc2 hval hy8
        have hsub : IntKind.u8.wrap (10 - (d : Int)) = ((10 - d : Nat) : Int) := by rw [IntKind.wrap_u8]; omega
        obtain ⟨D, hD⟩ : ∃ D, 10 - d = D := ⟨_, rfl⟩
        rw [hD] at hsub hval
        have hD0 : 0 < D := by omega
        have hDI : ((D : Int) == 0) = false := by rw [beq_eq_false_iff_ne]; omega
        have hDI2 : ¬ (D : Int) = 0 := by omega
        have hDI3 : ¬ D = 0 := by omega
        have htm : Int.tmod (t : Int) (D : Int) = ((t % D : Nat) : Int) := by rw [Int.ofNat_tmod]
        have htl := Nat.mod_lt t hD0
        obtain ⟨r, hr⟩ : ∃ r, t % D = r := ⟨_, rfl⟩
        rw [hr] at htm hval htl
        have hadd : IntKind.u8.wrap ((d : Int) + (r : Int)) = ((d + r : Nat) : Int) := by rw [IntKind.wrap_u8]; omega
        have HY : Hid (((d + r : Nat) : Int) = (y.toNat : Int)) := by unfold Hid; omega
        obtain ⟨dr, hdr⟩ : ∃ dr, d + r = dr := ⟨_, rfl⟩
        rw [hdr] at hadd HY
        clear ht hD hr hdr hval
        go_upto_region 11 with fail
        have ARM : ∀ {ops : Array Oper} {rest : List Oper} {o : Oper} {a : Act} {Q : Exit → Act → World → Prop} (hgd : o.guard = none) (s x : Operand) (ho : o.op = .call { callee := .builtin .append, args := #[s, x], argTypes := #[61, 61] }) (hs : a.eval s = u10) (hx : a.eval x = .slice (some ⟨wr.heap.size, 0, none⟩) 1 1) (hK : ∀ v' w1, Own5 w2.heap.size w1 v' (T ++ [y]) → Keep w2 w1 → wpList Tryz.prog ops Q rest (a.put o.dst v') w1), wpList Tryz.prog ops Q (o :: rest) a (wr.alloc (.cells #[.int .u8 (dr : Int)] 5)) := fun hgd s x ho hs hx hK => wpList_app5 (w0 := w2) hgd s x ho T _ hs _ y HY.out hx hO kr (by omega) hK
        clear hO
        go_wp2_with (at_builtin; refine ARM rfl _ _ rfl ?_ ?_ ?_; rotate_left 2; intro v' w5 hO5 k5)
        all_goals try (show (_ : Value) = _; rfl)
        go_roundg (gk - 1)
        case measure => omega
        case rel => exact ⟨i + 1, by omega, by rw [Htk.out]; exact hO5, by go_num, k5⟩
      · have hlt2 : ¬ (i : Int) < (ad.length : Int) := by omega
        rw [if_neg hia, Nat.add_zero] at hval
        have HY : Hid (((d : Nat) : Int) = (y.toNat : Int)) := by unfold Hid; omega
        clear hval
        go_upto_region 11 with fail
        have ARM : ∀ {ops : Array Oper} {rest : List Oper} {o : Oper} {a : Act} {Q : Exit → Act → World → Prop} (hgd : o.guard = none) (s x : Operand) (ho : o.op = .call { callee := .builtin .append, args := #[s, x], argTypes := #[61, 61] }) (hs : a.eval s = u10) (hx : a.eval x = .slice (some ⟨wr.heap.size, 0, none⟩) 1 1) (hK : ∀ v' w1, Own5 w2.heap.size w1 v' (T ++ [y]) → Keep w2 w1 → wpList Tryz.prog ops Q rest (a.put o.dst v') w1), wpList Tryz.prog ops Q (o :: rest) a (wr.alloc (.cells #[.int .u8 (d : Int)] 5)) := fun hgd s x ho hs hx hK => wpList_app5 (w0 := w2) hgd s x ho T _ hs _ y HY.out hx hO kr (by omega) hK
        clear hO
        go_wp2_with (at_builtin; refine ARM rfl _ _ rfl ?_ ?_ ?_; rotate_left 2; intro v' w5 hO5 k5)
        all_goals try (show (_ : Value) = _; rfl)
        go_roundg (gk - 1)
        case measure => omega
        case rel => exact ⟨i + 1, by omega, by rw [Htk.out]; exact hO5, by go_num, k5⟩
    · have hlt : ¬ (i : Int) < (l.length : Int) := by omega
      have hiT : (mr l ad).take i = mr l ad := List.take_of_length_le (by rw [mr_len]; omega)
      rw [hiT] at hO
      obtain ⟨a9, c9, rfl, hr9⟩ := hO.rd
      have hS5 : (101 :: S : List UInt8).length ≤ 100 := by simp; omega
      have hP0 := fun (ng : Bool) wx (kx : Keep wr wx) => plainE_any a0 c0 l p ng (101 :: S) wx hl hS5 (hr0.keep ((K2.out.trans kr).trans kx))
      have hP9 := fun (ng : Bool) wx (kx : Keep wr wx) => plainE_any a9 c9 (mr l ad) p ng (101 :: S) wx (by rw [mr_len]; exact hl) hS5 (hr9.keep kx)
      rw [mr_len] at hP9
      have hsz0 := plT_size l p
      have hsz9 := plT_size (mr l ad) p
      rw [mr_len, tK_mr] at hsz9
      have KR : Hid (Keep w wr) := K2.out.trans kr
      rw [mr_len]
      clear hiT hO hig hil kr hr9
      obtain ⟨n, hn⟩ : ∃ n, (plT l p).length + (S.length + 1) = n := ⟨_, rfl⟩
      have q0 := hP0 false
      have q1 := hP0 true
      have q2 := hP9 false
      have q3 := hP9 true
      have l0 : ((if false then [45] else []) ++ (plT l p ++ (101 :: S)) : List UInt8).length = n := by rw [← hn]; simp
      have l1 : ((if true then [45] else []) ++ (plT l p ++ (101 :: S)) : List UInt8).length = n + 1 := by rw [← hn]; simp
      have l2 : ((if false then [45] else []) ++ (plT (mr l ad) p ++ (101 :: S)) : List UInt8).length = n := by rw [← hn, hsz0, ← hsz9]; simp
      have l3 : ((if true then [45] else []) ++ (plT (mr l ad) p ++ (101 :: S)) : List UInt8).length = n + 1 := by rw [← hn, hsz0, ← hsz9]; simp
      have hE := HE.out
      have hTe := HT.out
      have r0 := fun wx => Read_pl false (decide (z < 0)) l E p hE.1 hE.2 wx
      have r1 := fun wx => Read_pl true (decide (z < 0)) l E p hE.1 hE.2 wx
      have r2 := fun wx => Read_pl false (decide (z < 0)) (mr l ad) E p hE.1 hE.2 wx
      have r3 := fun wx => Read_pl true (decide (z < 0)) (mr l ad) E p hE.1 hE.2 wx
      have r4 := fun wx => Read32_pl false (decide (z < 0)) l E p hE.1 hE.2 wx
      have r5 := fun wx => Read32_pl false (decide (z < 0)) (mr l ad) E p hE.1 hE.2 wx
      have s0 := fun wx => Read_long ((if false then [45] else []) ++ (plT l p ++ (101 :: S))) wx
      have s1 := fun wx => Read_long ((if true then [45] else []) ++ (plT l p ++ (101 :: S))) wx
      have s2 := fun wx => Read_long ((if false then [45] else []) ++ (plT (mr l ad) p ++ (101 :: S))) wx
      have s3 := fun wx => Read_long ((if true then [45] else []) ++ (plT (mr l ad) p ++ (101 :: S))) wx
      rw [← hTe] at r0 r1 r2 r3 r4 r5
      rw [l0] at r0 r4 s0
      rw [l1] at r1 s1
      rw [l2] at r2 r5 s2
      rw [l3] at r3 s3
      have hDp := rD_pos l p (pwN (decide (z < 0)) E)
      have hmo := rN_mono l ad p (pwN (decide (z < 0)) E)
      rw [rD_mr] at r2 r3 r5
      generalize rN l p (pwN (decide (z < 0)) E) = N0 at *
      generalize rN (mr l ad) p (pwN (decide (z < 0)) E) = N9 at *
      generalize rD l p (pwN (decide (z < 0)) E) = D0 at *
      have hlen : n ≤ l.length + 1 + 5 ∨ l.length = 0 := by
        rw [← hn, hsz0]
        (repeat' split) <;> omega
      have hlen3 : l.length = 0 → n < 4096 := by
        intro h
        rw [← hn, hsz0, if_pos h]
        split <;> omega
      have hlen2 : n = 4096 → decide ((l.length : Int) < 4087) = false := fun h => decide_eq_false (by
        rcases hlen with h1 | h1
        · omega
        · have := hlen3 h1
          omega)
      generalize ((if false then [45] else []) ++ (plT l p ++ (101 :: S)) : List UInt8) = F0 at *
      generalize ((if true then [45] else []) ++ (plT l p ++ (101 :: S)) : List UInt8) = G0 at *
      generalize ((if false then [45] else []) ++ (plT (mr l ad) p ++ (101 :: S)) : List UInt8) = F9 at *
      generalize ((if true then [45] else []) ++ (plT (mr l ad) p ++ (101 :: S)) : List UInt8) = G9 at *
      have Hlen2 : Hid (n = 4096 → decide ((l.length : Int) < 4087) = false) := hlen2
      have HN : Hid (N0 ≤ N9 ∧ 0 < D0) := ⟨hmo, hDp⟩
      clear l0 l1 l2 l3 hP0 hP9 hsz0 hsz9 hn HE HT hE hTe hlen hlen2 hlen3 hmo hDp hcat hszS hr0 hr1 K2
      rcases Nat.lt_trichotomy n 4096 with hc | hc | hc
      · have r0 := fun wx => r0 wx (by omega)
        have r1 := fun wx => r1 wx (by omega)
        have r2 := fun wx => r2 wx (by omega)
        have r3 := fun wx => r3 wx (by omega)
        have r4 := fun wx => r4 wx (by omega)
        have r5 := fun wx => r5 wx (by omega)
        clear s0 s1 s2 s3
        go_wp2_with fail
        refine (q0 _ (Keep.refl _)).mono ?_
        rintro e v0 ⟨rfl, j0⟩
        go_wp2_with fail
        refine (r0 _).mono ?_
        rintro e v1 ⟨x0, rfl, n0, j1⟩
        have J1 := j0.trans j1
        have N0' : Hid (NB N0 D0 x0) := n0
        obtain ⟨y0, hy0⟩ : ∃ y0, x0 + sg false = y0 := ⟨_, rfl⟩
        rw [hy0]
        have Y0 : Hid (x0 + sg false = y0) := hy0
        clear n0 hy0
        go_wp2_with fail
        refine (q2 _ J1).mono ?_
        rintro e v2 ⟨rfl, j2⟩
        go_wp2_with fail
        refine (r2 _).mono ?_
        rintro e v3 ⟨x2, rfl, n2, j3⟩
        have N2' : Hid (NB N9 D0 x2) := n2
        obtain ⟨y2, hy2⟩ : ∃ y2, x2 + sg false = y2 := ⟨_, rfl⟩
        rw [hy2]
        have Y2 : Hid (x2 + sg false = y2) := hy2
        clear n2 hy2
        have J3 := (J1.trans j2).trans j3
        go_wp2_with fail
        refine (q1 _ J3).mono ?_
        rintro e v4 ⟨rfl, j4⟩
        go_wp2_with fail
        refine (r1 _).mono ?_
        rintro e v5 ⟨x1, rfl, n1, j5⟩
        have N1' : Hid (NB N0 D0 x1) := n1
        obtain ⟨y1, hy1⟩ : ∃ y1, x1 + sg true = y1 := ⟨_, rfl⟩
        rw [hy1]
        have Y1 : Hid (x1 + sg true = y1) := hy1
        clear n1 hy1
        have J5 := (J3.trans j4).trans j5
        go_wp2_with fail
        refine (q3 _ J5).mono ?_
        rintro e v6 ⟨rfl, j6⟩
        go_wp2_with fail
        refine (r3 _).mono ?_
        rintro e v7 ⟨x3, rfl, n3, j7⟩
        have N3' : Hid (NB N9 D0 x3) := n3
        obtain ⟨y3, hy3⟩ : ∃ y3, x3 + sg true = y3 := ⟨_, rfl⟩
        rw [hy3]
        have Y3 : Hid (x3 + sg true = y3) := hy3
        clear n3 hy3
        have J7 := (J5.trans j6).trans j7
        go_wp2_with fail
        refine (q0 _ J7).mono ?_
        rintro e v8 ⟨rfl, j8⟩
        go_wp2_with fail
        refine (r4 _).mono ?_
        rintro e v9 ⟨x4, rfl, n4, j9⟩
        have N4' : Hid (Nw.NB N0 D0 x4) := n4
        obtain ⟨y4, hy4⟩ : ∃ y4, x4 + Nw.sg false = y4 := ⟨_, rfl⟩
        rw [hy4]
        have Y4 : Hid (x4 + Nw.sg false = y4) := hy4
        clear n4 hy4
        have J9 := (J7.trans j8).trans j9
        go_wp2_with fail
        refine (q2 _ J9).mono ?_
        rintro e v10 ⟨rfl, j10⟩
        go_wp2_with fail
        refine (r5 _).mono ?_
        rintro e v11 ⟨x5, rfl, n5, j11⟩
        have N5' : Hid (Nw.NB N9 D0 x5) := n5
        obtain ⟨y5, hy5⟩ : ∃ y5, x5 + Nw.sg false = y5 := ⟨_, rfl⟩
        rw [hy5]
        have Y5 : Hid (x5 + Nw.sg false = y5) := hy5
        clear n5 hy5
        have J11 := (J9.trans j10).trans j11
        have m1 := HN.out.1
        have m2 := HN.out.2
        have u1 := NB.one m2 N1'.out N0'.out
        have u3 := NB.one m2 N3'.out N2'.out
        have hle := NB.rise m2 m1 N0'.out N2'.out
        have hb0 := N0'.out.le m2
        have hb2 := N2'.out.le m2
        have hle2 := Nw.NB.rise m2 m1 N4'.out N5'.out
        have hb4 := Nw.NB.le N4'.out m2
        have hb5 := Nw.NB.le N5'.out m2
        have o1 := ord_like false hb0 hb2 hle
        have o2 := ord_like true hb0 hb2 hle
        have o3 := Nw.ord_like false hb4 hb5 hle2
        have hbo := or_sign x0 (by omega)
        have hb34 := fun y wx => f64bits y wx
        rw [Y0.out, Y2.out] at o1
        rw [← u1, ← u3, Y3.out] at o2
        rw [u1] at o2
        rw [← u1, Y1.out] at o2
        rw [Y4.out, Y5.out] at o3
        have e0 : x0 = y0 := by have := Y0.out; unfold sg at this; simpa using this
        have e1 : y1 = x0 + 9223372036854775808 := by have := Y1.out; rw [u1] at this; unfold sg at this; simpa using this.symm
        rw [e0] at hbo
        rw [e0] at e1
        have hbo2 : bits .or .u64 (y0 : Int) 9223372036854775808 = (y1 : Int) := by rw [hbo, e1]
        have c1 : FloatKind.f64.format.order y0 y2 = some .lt ∨ FloatKind.f64.format.order y0 y2 = some .eq := by
          rw [o1]; split
          · exact .inr rfl
          · exact .inl rfl
        have c2 : FloatKind.f64.format.order y1 y3 = some .gt ∨ FloatKind.f64.format.order y1 y3 = some .eq := by
          rw [o2]; split
          · exact .inr rfl
          · exact .inl rfl
        have c3 : FloatKind.f32.format.order y4 y5 = some .lt ∨ FloatKind.f32.format.order y4 y5 = some .eq := by
          rw [o3]; split
          · exact .inr rfl
          · exact .inl rfl
        have h34a := fun wx => f64bits y0 wx
        have h34b := fun wx => f64bits y1 wx
        have KF : Hid (Keep w v11) := KR.out.trans J11
        clear o1 o2 o3 hbo e0 e1 u1 u3 hle hle2 hb0 hb2 hb4 hb5 m1 m2 Y0 Y1 Y2 Y3 Y4 Y5 N0' N1' N2' N3' N4' N5' hb34 q0 q1 q2 q3 r0 r1 r2 r3 r4 r5 J1 J3 J5 J7 J9 J11 j0 j1 j2 j3 j4 j5 j6 j7 j8 j9 j10 j11
        rcases c1 with c1 | c1 <;> rcases c2 with c2 | c2 <;> rcases c3 with c3 | c3
        all_goals
          go_wp2_with fail
          go_ret
          exact ⟨rfl, KF.out⟩
      · have r0 := fun wx => r0 wx (by omega)
        have r2 := fun wx => r2 wx (by omega)
        have s1 := fun wx => s1 wx (by omega)
        have s3 := fun wx => s3 wx (by omega)
        have hdc := Hlen2.out hc
        clear r1 r3 r4 r5 s0 s2
        go_wp2_with fail
        refine (q0 _ (Keep.refl _)).mono ?_
        rintro e v0 ⟨rfl, j0⟩
        go_wp2_with fail
        refine (r0 _).mono ?_
        rintro e v1 ⟨x0, rfl, n0, j1⟩
        have J1 := j0.trans j1
        have N0' : Hid _ := n0
        clear n0
        go_wp2_with fail
        refine (q2 _ J1).mono ?_
        rintro e v2 ⟨rfl, j2⟩
        go_wp2_with fail
        refine (r2 _).mono ?_
        rintro e v3 ⟨x2, rfl, n2, j3⟩
        have N2' : Hid _ := n2
        clear n2
        have J3 := (J1.trans j2).trans j3
        go_wp2_with fail
        refine (q1 _ J3).mono ?_
        rintro e v4 ⟨rfl, j4⟩
        go_wp2_with fail
        refine (s1 _).mono ?_
        rintro e v5 ⟨rfl, j5⟩
        have J5 := (J3.trans j4).trans j5
        go_wp2_with fail
        refine (q3 _ J5).mono ?_
        rintro e v6 ⟨rfl, j6⟩
        go_wp2_with fail
        refine (s3 _).mono ?_
        rintro e v7 ⟨rfl, j7⟩
        have J7 := (J5.trans j6).trans j7
        have hdc2 : ¬ (l.length : Int) < 4087 := of_decide_eq_false hdc
        go_wp2_with fail
        go_ret
        exact ⟨rfl, KR.out.trans J7⟩
      · have s0 := fun wx => s0 wx (by omega)
        have s1 := fun wx => s1 wx (by omega)
        have s2 := fun wx => s2 wx (by omega)
        have s3 := fun wx => s3 wx (by omega)
        clear r0 r1 r2 r3 r4 r5
        go_wp2_with fail
        refine (q0 _ (Keep.refl _)).mono ?_
        rintro e v0 ⟨rfl, j0⟩
        go_wp2_with fail
        refine (s0 _).mono ?_
        rintro e v1 ⟨rfl, j1⟩
        have J1 := j0.trans j1
        go_wp2_with fail
        refine (q2 _ J1).mono ?_
        rintro e v2 ⟨rfl, j2⟩
        go_wp2_with fail
        refine (s2 _).mono ?_
        rintro e v3 ⟨rfl, j3⟩
        have J3 := (J1.trans j2).trans j3
        go_wp2_with fail
        refine (q1 _ J3).mono ?_
        rintro e v4 ⟨rfl, j4⟩
        go_wp2_with fail
        refine (s1 _).mono ?_
        rintro e v5 ⟨rfl, j5⟩
        have J5 := (J3.trans j4).trans j5
        go_wp2_with fail
        refine (q3 _ J5).mono ?_
        rintro e v6 ⟨rfl, j6⟩
        go_wp2_with fail
        refine (s3 _).mono ?_
        rintro e v7 ⟨rfl, j7⟩
        have J7 := (J5.trans j6).trans j7
        go_wp2_with fail
        go_ret
        exact ⟨rfl, KR.out.trans J7⟩
end Go.Proofs.YtpdjpjkieafnbaaGreatDoor.Li
set_option linter.unusedVariables false
set_option linter.unusedSimpArgs false
namespace Go.Proofs.YtpdjpjkieafnbaaGreatDoor
open Go.ChangeShapes Go.WideShapes Go.ChangeAt Go.RowKit
theorem cells5 : Tryz.prog.cellsOf 5 = 1 := by kernel_rfl
theorem u8_of {n : Int} (h : (Lit.int .u8 n).wf = true) : ∃ m : Nat, n = (m : Int) ∧ m ≤ 255 := by
  simp only [Lit.wf, IntKind.min, IntKind.max, IntKind.signed, IntKind.bits, Bool.and_eq_true, decide_eq_true_eq] at h
  simp at h
  exact ⟨n.toNat, by omega, by omega⟩
theorem i64_of {n : Int} (h : (Lit.int .i64 n).wf = true) : -9223372036854775808 ≤ n ∧ n ≤ 9223372036854775807 := by
  simp only [Lit.wf, IntKind.min, IntKind.max, IntKind.signed, IntKind.bits, Bool.and_eq_true, decide_eq_true_eq] at h
  simp at h
  omega
theorem i8_of {n : Int} (h : (Lit.int .i8 n).wf = true) : -128 ≤ n ∧ n ≤ 127 := by
  simp only [Lit.wf, IntKind.min, IntKind.max, IntKind.signed, IntKind.bits, Bool.and_eq_true, decide_eq_true_eq] at h
  simp at h
  omega
set_option maxRecDepth 100000 in
/-- An argument of bytes, opened. -/
theorem open_bytes2 {H : Type} {enc : TypeId × Value → H} {W : World} {base : Nat} {v : Value} {d : DataW H} {p : List MemPlace} (hv : Value.okWide Tryz.prog W .any base 61 v) (h : DataW.Trod enc Tryz.prog W 0 (fun _ => true) true 61 v d p) :
    ∃ a c l, v = .slice a l.length c ∧ l.length ≤ c ∧ Li.Rd5 W a l ∧ (c = 0 ∨ ∃ elems spare, d = .slice elems spare ∧ elems.length + spare.length = c) := by
  obtain ⟨a, len, cap, rfl⟩ := okWide_slice Tryz.underlying61 hv
  obtain ⟨fuel, hf⟩ := h
  rcases open_ints Tryz.underlying61 Tryz.underlying5 cells5 hf with ⟨hcs, _⟩ | ⟨x, l, c, zs, hcs, _, hl, hm, hz, hx, hcell, hwz⟩
  · simp [Value.cells] at hcs
    obtain ⟨rfl, rfl, rfl⟩ := hcs
    exact ⟨none, 0, [], rfl, Nat.le_refl _, by intro j hj; simp at hj, .inl rfl⟩
  · simp [Value.cells] at hcs
    obtain ⟨rfl, rfl, rfl⟩ := hcs
    simp only [Prod.mk.injEq] at hx
    simp only [if_true] at hz
    have hlen : ((zs.take len).map (fun z : Int => UInt8.ofNat z.toNat)).length = len := by simp; omega
    refine ⟨some x, cap, (zs.take len).map (fun z : Int => UInt8.ofNat z.toNat), by rw [hlen], by omega, ?_, .inr ⟨_, _, hx.1, by simp [lits]; omega⟩⟩
    intro j hj
    rw [hlen] at hj
    obtain ⟨b, off, rfl, hc⟩ := ints_at hcell (by omega)
    refine ⟨b, off, rfl, ?_⟩
    rw [hc j (by omega)]
    have hjl : j < zs.length := by omega
    obtain ⟨m, hm1, hm2⟩ := u8_of (hwz zs[j] (List.getElem_mem hjl))
    have e : ((zs.take len).map (fun z : Int => UInt8.ofNat z.toNat)).getD j 0 = UInt8.ofNat m := by
      simp [List.getD, hj, hjl, hm1]
    have e2 : (UInt8.ofNat m).toNat = m := by
      rw [UInt8.toNat_ofNat']
      exact Nat.mod_eq_of_lt (by omega)
    rw [e, e2]
    simp [List.getD, hjl, hm1]
theorem bytes5 : Tryz.prog.bytesOf 5 = 1 := by kernel_rfl
/-- What the form's reach says of it. -/
theorem reach_bytes {H : Type} {ts : List TypeId} {ds : List (DataW H)} (hsz : (DataW.weightsEach Tryz.prog ts ds).all (· ≤ reachBytes) = true) {j : Nat} {d : DataW H} {c : Nat} (ht : ts[j]? = some 61) (hd : ds[j]? = some d)
    (h : c = 0 ∨ ∃ elems spare, d = .slice elems spare ∧ elems.length + spare.length = c) : c ≤ 140737488351232 := by
  rcases h with rfl | ⟨elems, spare, rfl, hc⟩
  · omega
  · have := sized_slice hsz ht hd Tryz.underlying61
    rw [bytes5, hc] at this
    simp only [reachBytes] at this
    omega
end Go.Proofs.YtpdjpjkieafnbaaGreatDoor
