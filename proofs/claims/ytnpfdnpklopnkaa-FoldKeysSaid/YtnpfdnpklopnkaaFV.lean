/- Layer 4: being alike, plain; the law on it. -/
import Derived.Test.YtnpfdnpklopnkaaFP
namespace Go.Proofs.Ytnpfdnpklopnkaa
open Go.RowKit
theorem keyL_key (l : List UInt8) : keyL (keyL l) = keyL l := by
  unfold keyL; rw [List.map_map]; apply List.map_congr_left; intro c _; exact lowU_low c
theorem keyL_append (l m : List UInt8) : keyL (l ++ m) = keyL l ++ keyL m := by unfold keyL; rw [List.map_append]
theorem alike_self (l : List UInt8) : alikeL l l = true := alikeL_iff.2 rfl
theorem alike_key (l : List UInt8) : alikeL l (keyL l) = true := alikeL_iff.2 (keyL_key l).symm
theorem alike_comm (l m : List UInt8) : alikeL l m = alikeL m l := by
  rw [Bool.eq_iff_iff, alikeL_iff, alikeL_iff]; exact eq_comm
theorem alike_trans {l m : List UInt8} (h : alikeL l m = true) (n : List UInt8) : alikeL m n = alikeL l n := by
  rw [Bool.eq_iff_iff, alikeL_iff, alikeL_iff, alikeL_iff.1 h]
/-- Are the first k bytes of b in the sets of those of a? -/
def inB (a b : ByteArray) (k : Nat) : Bool := (List.range k).all fun j => sameN (b.data.toList.getD j 0).toNat (a.data.toList.getD j 0).toNat
theorem inB_succ {a b : ByteArray} {k : Nat} (ha : k < a.size) (hb : k < b.size) : inB a b (k + 1) = (inB a b k && sameN b[k].toNat a[k].toNat) := by
  unfold inB
  rw [List.range_succ, List.all_append, List.all_cons, List.all_nil, Bool.and_true, getD_at a 0 ha, getD_at b 0 hb]
theorem inB_all (a b : ByteArray) : (decide (a.size = b.size) && inB a b (min a.size b.size)) = alikeL a.data.toList b.data.toList := by
  rw [Bool.eq_iff_iff, alikeL_iff, Bool.and_eq_true, decide_eq_true_eq]
  constructor
  · rintro ⟨hs, hi⟩
    unfold inB at hi
    rw [List.all_eq_true] at hi
    apply List.ext_getElem (by rw [keyL_len, keyL_len, length_data, length_data, hs])
    intro j h1 h2
    rw [keyL_len, length_data] at h1 h2
    have h := hi j (List.mem_range.2 (by omega))
    rw [getD_at a 0 h1, getD_at b 0 h2] at h
    have g : ∀ (x : ByteArray) (hx : j < x.size) (hk : j < (keyL x.data.toList).length), (keyL x.data.toList)[j]'hk = lowU x[j] := fun x hx hk => by
      simp only [keyL, List.getElem_map]; rfl
    rw [g a h1, g b h2]
    apply UInt8.toNat_inj.1
    rw [lowU_nat, lowU_nat]
    unfold sameN at h
    exact (beq_iff_eq.1 h).symm
  · intro he
    have hs : a.size = b.size := by
      have := congrArg List.length he
      rwa [keyL_len, keyL_len, length_data, length_data] at this
    refine ⟨hs, ?_⟩
    unfold inB
    rw [List.all_eq_true]
    intro j hj
    have hj := List.mem_range.1 hj
    have h1 : j < a.size := by omega
    have h2 : j < b.size := by omega
    rw [getD_at a 0 h1, getD_at b 0 h2]
    have := congrArg (fun l => l[j]?) he
    simp only [keyL, List.getElem?_map] at this
    rw [List.getElem?_eq_getElem (by simpa using h1), List.getElem?_eq_getElem (by simpa using h2)] at this
    have e2 : lowU a[j] = lowU b[j] := Option.some.inj this
    have e3 := congrArg UInt8.toNat e2
    rw [lowU_nat, lowU_nat] at e3
    unfold sameN
    rw [e3]; simp
set_option maxHeartbeats 1600000 in
set_option maxRecDepth 100000 in
theorem falike_any (a b c : ByteArray) (w : World) : Calls Try.prog 7 #[.string a, .string b, .string c] w fun e w' => e = .returned (.bool true) ∧ Below w.heap.size w w' := by
  have SH := Lib.hid shown_any
  have hb := Below.refl w.heap.size w
  by_cases h1 : 100 < a.size
  · have hb1 : decide ((100 : Int) < (a.size : Int)) = true := decide_eq_true (by omega)
    clear h1
    go_enter Try.func7, Try.ntmps7
    go_wp2_with (first
      | (go_at_call 17; (with_reducible refine (SH.out _).mono ?_); rintro e w9 ⟨rfl, hb2⟩; replace hb := hb.trans (hb2.mono hb.size); clear hb2)
      )
    go_ret
    exact ⟨rfl, hb⟩
  have hb1 : decide ((100 : Int) < (a.size : Int)) = false := decide_eq_false (by omega)
  by_cases h2 : 100 < b.size
  · have hb2 : decide ((100 : Int) < (b.size : Int)) = true := decide_eq_true (by omega)
    clear h1 h2
    go_enter Try.func7, Try.ntmps7
    go_wp2_with (first
      | (go_at_call 17; (with_reducible refine (SH.out _).mono ?_); rintro e w9 ⟨rfl, hb2⟩; replace hb := hb.trans (hb2.mono hb.size); clear hb2)
      )
    go_ret
    exact ⟨rfl, hb⟩
  have hb2 : decide ((100 : Int) < (b.size : Int)) = false := decide_eq_false (by omega)
  by_cases h3 : 100 < c.size
  · have hb3 : decide ((100 : Int) < (c.size : Int)) = true := decide_eq_true (by omega)
    clear h1 h2 h3
    go_enter Try.func7, Try.ntmps7
    go_wp2_with (first
      | (go_at_call 17; (with_reducible refine (SH.out _).mono ?_); rintro e w9 ⟨rfl, hb2⟩; replace hb := hb.trans (hb2.mono hb.size); clear hb2)
      )
    go_ret
    exact ⟨rfl, hb⟩
  have hb3 : decide ((100 : Int) < (c.size : Int)) = false := decide_eq_false (by omega)
  have AA := fun w => alike_any a a w (by unfold maxLen; omega) (by unfold maxLen; omega)
  have AB := fun w => alike_any a b w (by unfold maxLen; omega) (by unfold maxLen; omega)
  have BA := fun w => alike_any b a w (by unfold maxLen; omega) (by unfold maxLen; omega)
  have BC := fun w => alike_any b c w (by unfold maxLen; omega) (by unfold maxLen; omega)
  have AC := fun w => alike_any a c w (by unfold maxLen; omega) (by unfold maxLen; omega)
  have AK := fun w => alike_any a (keyS a) w (by unfold maxLen; omega) (by rw [keyS_size]; unfold maxLen; omega)
  have KA := Lib.hid (fun w => key_any a w (by omega))
  have KB := Lib.hid (fun w => key_any b w (by omega))
  have CA := fun w => compare_any a b w (by unfold maxLen; omega) (by unfold maxLen; omega)
  have CB := fun w => compare_any b a w (by unfold maxLen; omega) (by unfold maxLen; omega)
  have SE := fun w => sets_any a w (by omega)
  have e1 : setsV a = setsL a.data.toList := by unfold setsV; rw [if_neg (by omega)]
  have e2 : setsE a = 0 := by unfold setsE; rw [if_neg (by omega)]
  have e3 : (setsL a.data.toList).length = a.size := by unfold setsL; simp
  unfold SetsPost SR at SE
  simp only [e1, e2, e3] at SE
  simp only [alike_self] at AA
  rw [keyS_data] at AK
  simp only [alike_key] at AK
  simp only [alike_comm b.data.toList a.data.toList] at BA
  simp only [cmpK_neg b.data.toList a.data.toList] at CB
  have hk : ((keyS a).toList == (keyS b).toList) = alikeL a.data.toList b.data.toList := by
    rw [keyS_list, keyS_list, Bool.eq_iff_iff, alikeL_iff, beq_iff_eq]
  have hc : (cmpK a.data.toList b.data.toList == 0) = alikeL a.data.toList b.data.toList := rfl
  have hcc := cmpK_cases a.data.toList b.data.toList
  have TR := fun h => alike_trans (l := a.data.toList) (m := b.data.toList) h c.data.toList
  have hin := inB_all a b
  obtain ⟨cm, hcm⟩ : ∃ cm, cm = cmpK a.data.toList b.data.toList := ⟨_, rfl⟩
  rw [← hcm] at hc hcc
  simp only [← hcm] at CA CB
  have hw64 : wrap64 cm = cm := by unfold wrap64; omega
  clear hcm hcc e1 e2 e3
  replace AA := Lib.hid AA
  replace AK := Lib.hid AK
  replace CA := Lib.hid CA
  replace CB := Lib.hid CB
  replace SE := Lib.hid SE
  generalize keyS a = ka at *
  generalize keyS b = kb at *
  rcases hi : alikeL a.data.toList b.data.toList with _ | _
  · simp only [hi] at AB BA hk hc hin
    replace AB := Lib.hid AB
    replace BA := Lib.hid BA
    replace hin := Lib.hid hin
    clear TR BC AC hi
    go_enter Try.func7, Try.ntmps7
    go_wp2_with (first
      | (go_at_call 26; (with_reducible refine (AB.out _).mono ?_); rintro e w2 ⟨rfl, hb2⟩; replace hb := hb.trans (hb2.mono hb.size); clear hb2)
      | (go_at_call 26; (with_reducible refine (AA.out _).mono ?_); rintro e w2 ⟨rfl, hb2⟩; replace hb := hb.trans (hb2.mono hb.size); clear hb2)
      | (go_at_call 26; (with_reducible refine (BA.out _).mono ?_); rintro e w2 ⟨rfl, hb2⟩; replace hb := hb.trans (hb2.mono hb.size); clear hb2)
      | (go_at_call 28; (with_reducible refine (KA.out _).mono ?_); rintro e w2 ⟨rfl, hb2⟩; replace hb := hb.trans (hb2.mono hb.size); clear hb2)
      | (go_at_call 28; (with_reducible refine (KB.out _).mono ?_); rintro e w2 ⟨rfl, hb2⟩; replace hb := hb.trans (hb2.mono hb.size); clear hb2)
      | (go_at_call 30; (with_reducible refine (CA.out _).mono ?_); rintro e w2 ⟨rfl, hb2⟩; replace hb := hb.trans (hb2.mono hb.size); clear hb2)
      | (go_at_call 30; (with_reducible refine (CB.out _).mono ?_); rintro e w2 ⟨rfl, hb2⟩; replace hb := hb.trans (hb2.mono hb.size); clear hb2)
      | (go_at_call 24; (with_reducible refine (SE.out _).mono ?_); rintro e w2 ⟨v, rfl, ⟨pp, cc, rfl, hcap, hsr⟩, hb2⟩; replace hb := hb.trans (hb2.mono hb.size); clear hb2)
      )
    have HS := Lib.hid hsr
    have HB := Lib.hid hb
    clear hsr hb
    go_loopw [10, 11] (fun u i wr => ∃ k : Nat, k ≤ a.size ∧ k ≤ b.size ∧ i = .int .i64 (k : Int) ∧ u = .bool (decide (a.size = b.size) && inB a b k) ∧ Below w2.heap.size w2 wr) (fun _ i _ => a.size - (intOf i).toNat)
    case atStart => exact ⟨0, Nat.zero_le _, Nat.zero_le _, rfl, by congr 1; rw [Bool.eq_iff_iff]; simp [inB]; omega, Below.refl _ _⟩
    case round =>
      obtain ⟨k, hka, hkb, rfl, rfl, hB⟩ := hrel
      by_cases hlb : k < b.size
      · have hltb : decide ((k : Int) < (b.size : Int)) = true := decide_eq_true (by omega)
        by_cases hla : k < a.size
        · have hlta : decide ((k : Int) < (a.size : Int)) = true := decide_eq_true (by omega)
          have hkn : (k : Int) < (a.size : Int) := by omega
          have HN := Lib.hid (inB_succ hla hlb)
          obtain ⟨g, o, hpe, hr0, hgl⟩ := HS.out k (bothP a[k].toNat) (by unfold setsL; rw [List.getElem?_map, List.getElem?_eq_getElem (by simpa using hla)]; rfl)
          subst hpe
          have hr : wr.rangeAt g (o + k * 4) (sc (bothP a[k].toNat)).toList := fun j v hv => (hB.cell (p := ⟨g, o + k * 4 + j, none⟩) hgl).trans (hr0 j v hv)
          have hgr : g < wr.heap.size := Nat.lt_of_lt_of_le hgl hB.size
          have HA := Lib.hid (fun w => rhas_any (bothP a[k].toNat) b[k].toNat w (UInt8.toNat_lt _))
          have HBB := Lib.hid hB
          clear hr0 hB
          obtain ⟨z, hz⟩ : ∃ z, z = (decide (a.size = b.size) && inB a b k) := ⟨_, rfl⟩
          rw [← hz]
          have HZ := Lib.hid hz
          clear hz
          cases z
          · go_wp2
            refine wp_region_below (w := wr) (Nat.le_refl _) (by kernel_rfl) (by kernel_rfl) ?_
            repeat (first
              | go_big_quiet_skip
              | (go_big_quiet_want; (first
                  | ((refine quiet_getm _ rfl _ _ rfl _ hr hgr ?_); simp only [Act.put, List.setIfInBounds_toArray, List.set_cons_succ, List.set_cons_zero]; go_big_quiet_on)
                  | (go_big_quiet_op; (first
                      | go_big_quiet_on
                      | (refine ⟨_, fun _ _ => rfl, ?_⟩; go_big_quiet_on)
                      | (apply Exists.intro; refine ⟨fun w9 hw9 => ?_, ?_⟩; (focus (fail)); go_big_quiet_on))))))
            refine wpQuiet_nil ?_
            intro w4 hb4
            go_wp2
            go_roundw
            case rel => exact ⟨k + 1, by omega, by omega, by go_num, by rw [HN.out, ← Bool.and_assoc, ← HZ.out]; rfl, HBB.out.trans (hb4.mono HBB.out.size)⟩
            case measure => simp [intOf]; omega
          · go_wp2
            refine wp_region_below (w := wr) (Nat.le_refl _) (by kernel_rfl) (by kernel_rfl) ?_
            repeat (first
              | go_big_quiet_skip
              | (go_big_quiet_want; (first
                  | ((refine quiet_getm _ rfl _ _ rfl _ hr hgr ?_); simp only [Act.put, List.setIfInBounds_toArray, List.set_cons_succ, List.set_cons_zero]; go_big_quiet_on)
                  | (go_big_quiet_op; (first
                      | go_big_quiet_on
                      | (refine ⟨_, fun _ _ => rfl, ?_⟩; go_big_quiet_on)
                      | (apply Exists.intro; refine ⟨fun w9 hw9 => ?_, ?_⟩; (focus ((go_at_call 38; exact Calls.quiet_bool (HA.out _) hw9 (Nat.le_refl _)))); go_big_quiet_on))))))
            refine wpQuiet_nil ?_
            intro w4 hb4
            go_wp2
            go_roundw
            case rel => exact ⟨k + 1, by omega, by omega, by go_num, by rw [HN.out, ← Bool.and_assoc, ← HZ.out]; rfl, HBB.out.trans (hb4.mono HBB.out.size)⟩
            case measure => simp [intOf]; omega
        · have hlta : decide ((k : Int) < (a.size : Int)) = false := decide_eq_false (by omega)
          obtain rfl : k = a.size := by omega
          have HE := HB.out.trans (hB.mono HB.out.size)
          rw [show inB a b a.size = inB a b (min a.size b.size) by rw [Nat.min_eq_left (by omega)], hin.out]
          go_wp2_with (first
            | (go_at_call 28; (with_reducible refine (KA.out _).mono ?_); rintro e w5 ⟨rfl, hb5⟩; replace HE := HE.trans (hb5.mono HE.size); clear hb5)
            | (go_at_call 26; (with_reducible refine (AK.out _).mono ?_); rintro e w5 ⟨rfl, hb5⟩; replace HE := HE.trans (hb5.mono HE.size); clear hb5)
            | (go_at_call 17; (with_reducible refine (SH.out _).mono ?_); rintro e w5 ⟨rfl, hb5⟩; replace HE := HE.trans (hb5.mono HE.size); clear hb5)
            )
          go_ret
          exact ⟨rfl, HE⟩
      · have hltb : decide ((k : Int) < (b.size : Int)) = false := decide_eq_false (by omega)
        have HE := HB.out.trans (hB.mono HB.out.size)
        obtain rfl : k = b.size := by omega
        rw [show inB a b b.size = inB a b (min a.size b.size) by rw [Nat.min_eq_right (by omega)], hin.out]
        go_wp2_with (first
          | (go_at_call 28; (with_reducible refine (KA.out _).mono ?_); rintro e w5 ⟨rfl, hb5⟩; replace HE := HE.trans (hb5.mono HE.size); clear hb5)
          | (go_at_call 26; (with_reducible refine (AK.out _).mono ?_); rintro e w5 ⟨rfl, hb5⟩; replace HE := HE.trans (hb5.mono HE.size); clear hb5)
          | (go_at_call 17; (with_reducible refine (SH.out _).mono ?_); rintro e w5 ⟨rfl, hb5⟩; replace HE := HE.trans (hb5.mono HE.size); clear hb5)
          )
        go_ret
        exact ⟨rfl, HE⟩
  · simp only [hi] at AB BA hk hc hin
    have TR2 := TR hi
    simp only [TR2] at BC
    generalize alikeL a.data.toList c.data.toList = z at *
    replace AB := Lib.hid AB
    replace BA := Lib.hid BA
    replace BC := Lib.hid BC
    replace AC := Lib.hid AC
    replace hin := Lib.hid hin
    clear TR TR2 hi
    go_enter Try.func7, Try.ntmps7
    go_wp2_with (first
      | (go_at_call 26; (with_reducible refine (AB.out _).mono ?_); rintro e w2 ⟨rfl, hb2⟩; replace hb := hb.trans (hb2.mono hb.size); clear hb2)
      | (go_at_call 26; (with_reducible refine (AA.out _).mono ?_); rintro e w2 ⟨rfl, hb2⟩; replace hb := hb.trans (hb2.mono hb.size); clear hb2)
      | (go_at_call 26; (with_reducible refine (BA.out _).mono ?_); rintro e w2 ⟨rfl, hb2⟩; replace hb := hb.trans (hb2.mono hb.size); clear hb2)
      | (go_at_call 28; (with_reducible refine (KA.out _).mono ?_); rintro e w2 ⟨rfl, hb2⟩; replace hb := hb.trans (hb2.mono hb.size); clear hb2)
      | (go_at_call 28; (with_reducible refine (KB.out _).mono ?_); rintro e w2 ⟨rfl, hb2⟩; replace hb := hb.trans (hb2.mono hb.size); clear hb2)
      | (go_at_call 30; (with_reducible refine (CA.out _).mono ?_); rintro e w2 ⟨rfl, hb2⟩; replace hb := hb.trans (hb2.mono hb.size); clear hb2)
      | (go_at_call 30; (with_reducible refine (CB.out _).mono ?_); rintro e w2 ⟨rfl, hb2⟩; replace hb := hb.trans (hb2.mono hb.size); clear hb2)
      | (go_at_call 24; (with_reducible refine (SE.out _).mono ?_); rintro e w2 ⟨v, rfl, ⟨pp, cc, rfl, hcap, hsr⟩, hb2⟩; replace hb := hb.trans (hb2.mono hb.size); clear hb2)
      | (go_at_call 26; (with_reducible refine (BC.out _).mono ?_); rintro e w2 ⟨rfl, hb2⟩; replace hb := hb.trans (hb2.mono hb.size); clear hb2)
      | (go_at_call 26; (with_reducible refine (AC.out _).mono ?_); rintro e w2 ⟨rfl, hb2⟩; replace hb := hb.trans (hb2.mono hb.size); clear hb2)
      )
    have HS := Lib.hid hsr
    have HB := Lib.hid hb
    clear hsr hb
    go_loopw [10, 11] (fun u i wr => ∃ k : Nat, k ≤ a.size ∧ k ≤ b.size ∧ i = .int .i64 (k : Int) ∧ u = .bool (decide (a.size = b.size) && inB a b k) ∧ Below w2.heap.size w2 wr) (fun _ i _ => a.size - (intOf i).toNat)
    case atStart => exact ⟨0, Nat.zero_le _, Nat.zero_le _, rfl, by congr 1; rw [Bool.eq_iff_iff]; simp [inB]; omega, Below.refl _ _⟩
    case round =>
      obtain ⟨k, hka, hkb, rfl, rfl, hB⟩ := hrel
      by_cases hlb : k < b.size
      · have hltb : decide ((k : Int) < (b.size : Int)) = true := decide_eq_true (by omega)
        by_cases hla : k < a.size
        · have hlta : decide ((k : Int) < (a.size : Int)) = true := decide_eq_true (by omega)
          have hkn : (k : Int) < (a.size : Int) := by omega
          have HN := Lib.hid (inB_succ hla hlb)
          obtain ⟨g, o, hpe, hr0, hgl⟩ := HS.out k (bothP a[k].toNat) (by unfold setsL; rw [List.getElem?_map, List.getElem?_eq_getElem (by simpa using hla)]; rfl)
          subst hpe
          have hr : wr.rangeAt g (o + k * 4) (sc (bothP a[k].toNat)).toList := fun j v hv => (hB.cell (p := ⟨g, o + k * 4 + j, none⟩) hgl).trans (hr0 j v hv)
          have hgr : g < wr.heap.size := Nat.lt_of_lt_of_le hgl hB.size
          have HA := Lib.hid (fun w => rhas_any (bothP a[k].toNat) b[k].toNat w (UInt8.toNat_lt _))
          have HBB := Lib.hid hB
          clear hr0 hB
          obtain ⟨z, hz⟩ : ∃ z, z = (decide (a.size = b.size) && inB a b k) := ⟨_, rfl⟩
          rw [← hz]
          have HZ := Lib.hid hz
          clear hz
          cases z
          · go_wp2
            refine wp_region_below (w := wr) (Nat.le_refl _) (by kernel_rfl) (by kernel_rfl) ?_
            repeat (first
              | go_big_quiet_skip
              | (go_big_quiet_want; (first
                  | ((refine quiet_getm _ rfl _ _ rfl _ hr hgr ?_); simp only [Act.put, List.setIfInBounds_toArray, List.set_cons_succ, List.set_cons_zero]; go_big_quiet_on)
                  | (go_big_quiet_op; (first
                      | go_big_quiet_on
                      | (refine ⟨_, fun _ _ => rfl, ?_⟩; go_big_quiet_on)
                      | (apply Exists.intro; refine ⟨fun w9 hw9 => ?_, ?_⟩; (focus (fail)); go_big_quiet_on))))))
            refine wpQuiet_nil ?_
            intro w4 hb4
            go_wp2
            go_roundw
            case rel => exact ⟨k + 1, by omega, by omega, by go_num, by rw [HN.out, ← Bool.and_assoc, ← HZ.out]; rfl, HBB.out.trans (hb4.mono HBB.out.size)⟩
            case measure => simp [intOf]; omega
          · go_wp2
            refine wp_region_below (w := wr) (Nat.le_refl _) (by kernel_rfl) (by kernel_rfl) ?_
            repeat (first
              | go_big_quiet_skip
              | (go_big_quiet_want; (first
                  | ((refine quiet_getm _ rfl _ _ rfl _ hr hgr ?_); simp only [Act.put, List.setIfInBounds_toArray, List.set_cons_succ, List.set_cons_zero]; go_big_quiet_on)
                  | (go_big_quiet_op; (first
                      | go_big_quiet_on
                      | (refine ⟨_, fun _ _ => rfl, ?_⟩; go_big_quiet_on)
                      | (apply Exists.intro; refine ⟨fun w9 hw9 => ?_, ?_⟩; (focus ((go_at_call 38; exact Calls.quiet_bool (HA.out _) hw9 (Nat.le_refl _)))); go_big_quiet_on))))))
            refine wpQuiet_nil ?_
            intro w4 hb4
            go_wp2
            go_roundw
            case rel => exact ⟨k + 1, by omega, by omega, by go_num, by rw [HN.out, ← Bool.and_assoc, ← HZ.out]; rfl, HBB.out.trans (hb4.mono HBB.out.size)⟩
            case measure => simp [intOf]; omega
        · have hlta : decide ((k : Int) < (a.size : Int)) = false := decide_eq_false (by omega)
          obtain rfl : k = a.size := by omega
          have HE := HB.out.trans (hB.mono HB.out.size)
          rw [show inB a b a.size = inB a b (min a.size b.size) by rw [Nat.min_eq_left (by omega)], hin.out]
          go_wp2_with (first
            | (go_at_call 28; (with_reducible refine (KA.out _).mono ?_); rintro e w5 ⟨rfl, hb5⟩; replace HE := HE.trans (hb5.mono HE.size); clear hb5)
            | (go_at_call 26; (with_reducible refine (AK.out _).mono ?_); rintro e w5 ⟨rfl, hb5⟩; replace HE := HE.trans (hb5.mono HE.size); clear hb5)
            | (go_at_call 17; (with_reducible refine (SH.out _).mono ?_); rintro e w5 ⟨rfl, hb5⟩; replace HE := HE.trans (hb5.mono HE.size); clear hb5)
            )
          go_ret
          exact ⟨rfl, HE⟩
      · have hltb : decide ((k : Int) < (b.size : Int)) = false := decide_eq_false (by omega)
        have HE := HB.out.trans (hB.mono HB.out.size)
        obtain rfl : k = b.size := by omega
        rw [show inB a b b.size = inB a b (min a.size b.size) by rw [Nat.min_eq_right (by omega)], hin.out]
        go_wp2_with (first
          | (go_at_call 28; (with_reducible refine (KA.out _).mono ?_); rintro e w5 ⟨rfl, hb5⟩; replace HE := HE.trans (hb5.mono HE.size); clear hb5)
          | (go_at_call 26; (with_reducible refine (AK.out _).mono ?_); rintro e w5 ⟨rfl, hb5⟩; replace HE := HE.trans (hb5.mono HE.size); clear hb5)
          | (go_at_call 17; (with_reducible refine (SH.out _).mono ?_); rintro e w5 ⟨rfl, hb5⟩; replace HE := HE.trans (hb5.mono HE.size); clear hb5)
          )
        go_ret
        exact ⟨rfl, HE⟩
end Go.Proofs.Ytnpfdnpklopnkaa
