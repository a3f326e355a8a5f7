/- Layer 1: ParseList at strings that are refused, walked. -/
import Derived.Test.YtoapfldmkpobmaaGreatDoorPe
import Derived.Maps.AppendAt
namespace Go.Proofs.YtoapfldmkpobmaaGreatDoor
open Go.RowKit
def numF (x : ByteArray) : Int := intV (spF x).data.toList 0 1000000000
def numL (x : ByteArray) : Int := intV (spL x).data.toList 0 1000000000
def errL (x : ByteArray) : Int := intE (spL x).data.toList 0 1000000000
def lastE : List ByteArray → Int
  | [] => 0
  | x :: r => if errL x ≠ 0 then errL x else lastE r
def manyL : List ByteArray → Int
  | [] => 0
  | x :: r => (numL x - numF x + 1) + manyL r
def parseLE (s : ByteArray) : Int :=
  if s.data.toList = [45] then 0 else if spansB none (commaP s) = false then 6 else if lastE (commaP s) ≠ 0 then lastE (commaP s) else if 500 < manyL (commaP s) then 3 else 0
theorem intV_rng (l : List UInt8) : 0 ≤ intV l 0 1000000000 ∧ intV l 0 1000000000 ≤ 1000000000 := by
  unfold intV
  split
  · rename_i h
    unfold outR at h
    simp at h
    omega
  · omega
theorem manyL_app (a : List ByteArray) (x : ByteArray) : manyL (a ++ [x]) = manyL a + (numL x - numF x + 1) := by
  induction a with
  | nil => simp [manyL]
  | cons y r ih => simp only [List.cons_append, manyL, ih]; omega
theorem manyL_take {L : List ByteArray} {k : Nat} {x : ByteArray} (h : L[k]? = some x) : manyL (L.take (k + 1)) = manyL (L.take k) + (numL x - numF x + 1) := by
  rw [List.take_add_one, h]; exact manyL_app _ _
theorem manyL_rng (L : List ByteArray) : -(1000000000 * (L.length : Int)) ≤ manyL L ∧ manyL L ≤ 1000000001 * (L.length : Int) := by
  induction L with
  | nil => simp [manyL]
  | cons x r ih =>
    have h1 := intV_rng (spF x).data.toList
    have h2 := intV_rng (spL x).data.toList
    unfold manyL numL numF
    simp only [List.length_cons]
    omega
theorem lastE_at {L : List ByteArray} {k : Nat} {x : ByteArray} (h : L[k]? = some x) : lastE (L.drop k) = if errL x ≠ 0 then errL x else lastE (L.drop (k + 1)) := by
  have hk := (List.getElem?_eq_some_iff.1 h).1
  rw [List.drop_eq_getElem_cons hk, (List.getElem?_eq_some_iff.1 h).2]
  rfl
def i64v (z : Int) : Value := .int .i64 z
theorem i64v_take {f : ByteArray → Int} {L : List ByteArray} {k : Nat} {x : ByteArray} (h : L[k]? = some x) : ((L.take k).map fun y => i64v (f y)) ++ [i64v (f x)] = (L.take (k + 1)).map fun y => i64v (f y) := by
  rw [List.take_add_one, h, List.map_append]
  rfl
theorem info_i64 : (Tryz.prog.info? 2).map (fun i => (i.zero, i.size, i.bytes)) = some (some (.int .i64 0), 1, 8) := by kernel_rfl
theorem sp_rng (x : ByteArray) : (spF x).size ≤ x.size ∧ (spL x).size ≤ x.size := by
  obtain ⟨l1, l2⟩ := cut_le x.data.toList [45]
  rw [length_data] at l1 l2
  have f1 : (spF x).size ≤ x.size := by unfold spF; rw [size_mk]; exact l1
  refine ⟨f1, ?_⟩
  unfold spL
  split
  · rw [size_mk]; exact l2
  · exact f1
theorem own_lt {w : World} {base : Nat} {e : TypeId} {size : Nat} {v : Value} {n : Nat} {xs : List Value} (h : w.ownsRow base e size v n xs) {j : Nat} (hj : v.ownBlock = some j) : j < w.heap.size := by
  rcases h.2 with ⟨rfl, _⟩ | ⟨g, cap, cur, rfl, hb, hg, _⟩
  · cases hj
  · cases hj; exact in_heap hg
/-- The block of the one row is none, or not that of the other. -/
def Sep (a b : Value) : Prop := a.ownBlock = none ∨ a.ownBlock ≠ b.ownBlock
theorem Sep.symm {a b : Value} (h : Sep a b) : Sep b a := by
  unfold Sep at *
  rcases h with h | h
  · by_cases hb : b.ownBlock = none
    · exact .inl hb
    · exact .inr (by rw [h]; exact hb)
  · exact .inr fun e => h e.symm
theorem Sep.step {w : World} {base : Nat} {e : TypeId} {size : Nat} {a b b' : Value} {n : Nat} {xs : List Value} (h : Sep a b) (ha : w.ownsRow base e size a n xs) (hb : b'.ownBlock = b.ownBlock ∨ b'.ownBlock = some w.heap.size) : Sep a b' := by
  unfold Sep at *
  rcases h with h | h
  · exact .inl h
  · rcases hb with hb | hb
    · exact .inr (by rw [hb]; exact h)
    · refine .inr fun e => ?_
      have := own_lt ha (e.trans hb)
      omega
def PlBad (w : World) (c : Int) (e : Ending) (w' : World) : Prop := e = .returned (.tuple #[.slice none 0 0, .int .i64 c]) ∧ Below w.heap.size w w'
set_option maxHeartbeats 1600000 in
set_option maxRecDepth 100000 in
theorem parse_bad (s : ByteArray) (w : World) (hw : LW w) (hs : s.size ≤ 1000000000) (hE : parseLE s ≠ 0) : Calls Tryz.prog 7 #[.string s] w (PlBad w (parseLE s)) := by
  obtain ⟨i0, hi, hz0, hz1, hz2⟩ := info_parts info_i64
  have h45 : s.data.toList ≠ [45] := fun h => hE (by unfold parseLE; rw [if_pos h])
  have hne : (s.toList == [45]) = false := by
    rw [beq_eq_false_iff_ne]
    intro h; exact h45 (by rw [← h]; exact (toList_data s).symm)
  have RS := readSpans_any s w hw hs
  have hsz := fun x (h : x ∈ commaP s) => Nat.le_trans (commaP_le h) hs
  have hnl := commaP_len s
  by_cases hB : spansB none (commaP s) = false
  · have HE := Lib.hid (show parseLE s = 6 by unfold parseLE; rw [if_neg h45, if_pos hB])
    have RS2 : Calls Tryz.prog 19 #[.string s] w fun e w' => e = .returned (.tuple #[.slice none 0 0, .bool false]) ∧ Below w.heap.size w w' := RS.mono fun e w' h => by
      rcases h.2 with h2 | h2
      · exact ⟨h2.2, h.1⟩
      · rw [hB] at h2; cases h2.1
    clear RS hB hE h45 hsz hnl
    rw [HE.out]
    go_enter Tryz.func7, Tryz.ntmps7
    go_wp2_with (go_at_call 19; refine RS2.mono ?_; rintro e w1 ⟨rfl, hb1⟩)
    go_ret2
    exact ⟨rfl, hb1⟩
  · replace hB : spansB none (commaP s) = true := by simpa using hB
    have HE : parseLE s = if lastE (commaP s) ≠ 0 then lastE (commaP s) else if 500 < manyL (commaP s) then 3 else 0 := by
      unfold parseLE; rw [if_neg h45, if_neg (by rw [hB]; decide)]
    generalize parseLE s = E at *
    generalize commaP s = L at *
    obtain ⟨n, hn⟩ : ∃ n, n = L.length := ⟨_, rfl⟩
    have RS2 : Calls Tryz.prog 19 #[.string s] w fun e w' => Below w.heap.size w w' ∧ ∃ v B, w.heap.size ≤ B ∧ e = .returned (.tuple #[v, .bool true]) ∧ Hid (w'.ownsRow B 51 2 v n (L.flatMap encSp)) := RS.mono fun e w' h => by
      rcases h.2 with h2 | h2
      · rw [hB] at h2; cases h2.1
      · obtain ⟨v, B, q1, q2, q3⟩ := h2.2
        rw [← hn] at q3
        exact ⟨h.1, v, B, q1, q2, Lib.hid q3⟩
    rw [← hn] at hnl
    have HN := Lib.hid hn
    have HSZ := Lib.hid hsz
    replace HE := Lib.hid HE
    have HE0 := Lib.hid hE
    clear RS hB h45 hn hsz hE
    go_enter Tryz.func7, Tryz.ntmps7
    go_wp2_with (go_at_call 19; refine RS2.mono ?_; rintro e w1 ⟨hb1, v, B, hBB, rfl, hsp⟩; obtain ⟨pa, cp, rfl⟩ := own_shape hsp.out)
    clear RS2 hne
    have hs1 := hb1.size
    go_loopw [6, 7, 9, 10, 11, 12, 13, 30] (fun v6 v7 _ _ _ _ _ i wr => ∃ k : Nat, k ≤ n ∧ i = .int .i64 k ∧ Hid (lastE L = lastE (L.drop k)) ∧ Hid (wr.ownsRow w1.heap.size 2 1 v6 k ((L.take k).map fun y => i64v (numF y))) ∧ Hid (wr.ownsRow w1.heap.size 2 1 v7 k ((L.take k).map fun y => i64v (numL y))) ∧ Hid (Sep v7 v6) ∧ Below w1.heap.size w1 wr) (fun _ _ _ _ _ _ _ i _ => n - (intOf i).toNat)
    case atStart => exact ⟨0, Nat.zero_le _, rfl, Lib.hid rfl, Lib.hid (by simpa using World.ownsRow_nil _ _ _ _), Lib.hid (by simpa using World.ownsRow_nil _ _ _ _), Lib.hid (.inl rfl), Below.refl _ _⟩
    case round =>
      obtain ⟨k, hk, rfl, hS, h6, h7, hsep, hb⟩ := hrel
      by_cases hlt : k < n
      · have hltb : decide ((k : Int) < (n : Int)) = true := decide_eq_true (by omega)
        have hkn : (k : Int) < (n : Int) := by omega
        have hk0 : (0 : Int) ≤ (k : Int) := by omega
        obtain ⟨x, hx⟩ : ∃ x, L[k]? = some x := ⟨_, List.getElem?_eq_getElem (by rw [← HN.out]; exact hlt)⟩
        have hxs := HSZ.out x (List.mem_of_getElem? hx)
        obtain ⟨g, cap, e, hgb, hgl, _, hcs⟩ := own_two hsp.out (by omega)
        obtain rfl : pa = some ⟨g, 0, none⟩ := by cases e; rfl
        have hc0 : wr.cell? ⟨g, k * 2, none⟩ = some (.string (spF x)) := by
          have := hcs (k * 2) _ (enc_get hx).1
          rw [Nat.zero_add] at this
          exact (hb.cell (p := ⟨g, k * 2, none⟩) hgl).trans this
        have hc1 : wr.cell? ⟨g, k * 2 + 1, none⟩ = some (.string (spL x)) := by
          have := hcs (k * 2 + 1) _ (enc_get hx).2
          rw [Nat.zero_add] at this
          exact (hb.cell (p := ⟨g, k * 2 + 1, none⟩) hgl).trans this
        obtain ⟨r1, r2⟩ := sp_rng x
        have IF := Lib.hid (fun W (h : Below w.heap.size w W) => int_any (spF x) 0 1000000000 (by decide) (by decide) W (hw.below h) (by omega))
        have IG := Lib.hid (fun W (h : Below w.heap.size w W) => int_any (spL x) 0 1000000000 (by decide) (by decide) W (hw.below h) (by omega))
        have HAT := Lib.hid (lastE_at hx)
        have T6 := Lib.hid (i64v_take (f := numF) hx)
        have T7 := Lib.hid (i64v_take (f := numL) hx)
        have DF := Lib.hid (show numF x = intV (spF x).data.toList 0 1000000000 from rfl)
        have DL := Lib.hid (show numL x = intV (spL x).data.toList 0 1000000000 from rfl)
        have DE := Lib.hid (show errL x = intE (spL x).data.toList 0 1000000000 from rfl)
        rw [← DF.out] at IF
        rw [← DL.out, ← DE.out] at IG
        have hbw := hb1.trans (hb.mono hs1)
        have hb3 : Below w.heap.size w (wr.alloc (.cells #[.string (spF x), .string (spL x)] 51)) := hbw.alloc hbw.size _
        have f0 : (wr.alloc (.cells #[.string (spF x), .string (spL x)] 51)).cell? ⟨wr.heap.size, 0, none⟩ = some (.string (spF x)) := by rw [cell_of_row _ _ _ _ _ _ (heap_alloc_new _ _)]; rfl
        have f1 : (wr.alloc (.cells #[.string (spF x), .string (spL x)] 51)).cell? ⟨wr.heap.size, 1, none⟩ = some (.string (spL x)) := by rw [cell_of_row _ _ _ _ _ _ (heap_alloc_new _ _)]; rfl
        have hb4 : Below wr.heap.size wr (wr.alloc (.cells #[.string (spF x), .string (spL x)] 51)) := (Below.refl _ wr).alloc (Nat.le_refl _) _
        generalize spF x = F at *
        generalize spL x = G at *
        generalize numF x = a at *
        generalize numL x = b at *
        generalize errL x = c at *
        clear hx hcs e
        by_cases hc : c = 0
        · subst hc
          go_wp2_with (first
            | (go_at_call 11; first
              | ((with_reducible refine (IG.out _ hb3).mono ?_); rintro e wa ⟨rfl, hba⟩
                 have d0 := (hba.cell (p := ⟨wr.heap.size, 0, none⟩) (by simp)).trans f0
                 have hbA := hb3.trans (hba.mono hb3.size)
                 have hbB := hb4.trans (hba.mono hb4.size)
                 clear hba f0 f1)
              | ((with_reducible refine (IF.out _ hbA).mono ?_); rintro e wb ⟨rfl, hbb⟩
                 have hbD := hbB.trans (hbb.mono hbB.size)
                 have o6 := Lib.hid (h6.out.kept (grown_of_below hbD) (own_some h6.out))
                 have o7 := Lib.hid (h7.out.kept (grown_of_below hbD) (own_some h7.out))
                 have hbE := hb.trans (hbD.mono hb.size)
                 have hs5 := hbE.size
                 clear hbb d0 hbA hbB hbD))
            | (at_builtin; refine wpList_append_own_at _ rfl _ _ 49 rfl w1.heap.size 2 i0 (.int .i64 0) 1 8 Tryz.underlying49 hi hz0 hz1 hz2 rfl (by decide) _ k _ rfl (o6.out.alloc _) ⟨wb.heap.size, 0, none⟩ 1 1 [i64v a] rfl rfl (cell_one_new _ _ _) (by simp [i64v, Value.oneCell']) (by simp only [maxLen]; omega) (by omega) (by simp; omega) ?_
               intro v6 w6 q6 hgr6 _ hob6
               have z7 := o7.out.alloc (.cells #[.int .i64 a] 2)
               have S1 := Lib.hid (Sep.step hsep.out z7 hob6)
               have p7 := Lib.hid (z7.kept hgr6 hsep.out)
               have P6 := Lib.hid q6
               have hb6 : Below w1.heap.size w1 w6 := (hbE.alloc hs5 _).grown hgr6 (by simp; omega) (fun j e => own_ge o6.out e)
               have hs6 := hb6.size
               clear z7 hob6 q6 hgr6 hbE o6 o7)
            | (at_builtin; refine wpList_append_own_at _ rfl _ _ 49 rfl w1.heap.size 2 i0 (.int .i64 0) 1 8 Tryz.underlying49 hi hz0 hz1 hz2 rfl (by decide) _ k _ rfl (p7.out.alloc _) ⟨w6.heap.size, 0, none⟩ 1 1 [i64v b] rfl rfl (cell_one_new _ _ _) (by simp [i64v, Value.oneCell']) (by simp only [maxLen]; omega) (by omega) (by simp; omega) ?_
               intro v7 w7 q7 hgr7 _ hob7
               have z6 := P6.out.alloc (.cells #[.int .i64 b] 2)
               have S2 := Lib.hid (Sep.step S1.out.symm z6 hob7)
               have p6 := Lib.hid (z6.kept hgr7 S1.out.symm)
               have P7 := Lib.hid q7
               have hb7 : Below w1.heap.size w1 w7 := (hb6.alloc hs6 _).grown hgr7 (by simp; omega) (fun j e => own_ge p7.out e)
               clear z6 hob7 q7 hgr7 hb6 P6 p7)
            )
          go_roundw
          case rel => exact ⟨k + 1, by omega, by go_num, Lib.hid (by rw [hS.out, HAT.out]; simp), Lib.hid (by rw [← T6.out]; exact p6.out), Lib.hid (by rw [← T7.out]; exact P7.out), Lib.hid S2.out.symm, hb7⟩
          case measure => simp [intOf]; omega
        · have hcb : (c != 0) = true := by simpa using hc
          have HC := Lib.hid (show E = c by rw [HE.out, hS.out, HAT.out, if_pos hc, if_pos hc])
          clear hc HAT
          go_wp2_with (go_at_call 11; (with_reducible refine (IG.out _ hb3).mono ?_); rintro e wa ⟨rfl, hba⟩; have hbA := hb3.trans (hba.mono hb3.size); clear hba f0 f1)
          go_ret2
          exact ⟨by rw [HC.out]; rfl, hbA⟩
      · obtain rfl : k = n := by omega
        have hltb : decide ((k : Int) < (k : Int)) = false := decide_eq_false (by omega)
        have hL0 : lastE L = 0 := by rw [hS.out, List.drop_of_length_le (by rw [HN.out]; exact Nat.le_refl _)]; rfl
        have hM : 500 < manyL L ∧ E = 3 := by
          have h1 := HE.out
          have h2 := HE0.out
          rw [hL0, if_neg (by decide)] at h1
          by_cases h : 500 < manyL L
          · rw [if_pos h] at h1; exact ⟨h, h1⟩
          · rw [if_neg h] at h1; exact absurd h1 h2
        obtain ⟨hM1, rfl⟩ := hM
        have HM := Lib.hid hM1
        rw [List.take_of_length_le (by rw [HN.out]; exact Nat.le_refl _)] at h6 h7
        obtain ⟨a6, c6, rfl⟩ := own_shape h6.out
        obtain ⟨a7, c7, rfl⟩ := own_shape h7.out
        have hbw := hb1.trans (hb.mono hs1)
        clear hS hL0 hM1 HE HE0 hsp
        go_wp2
        clear hltb
        go_loopw [14, 15, 60] (fun m _ i w2 => ∃ j : Nat, j ≤ k ∧ i = .int .i64 j ∧ (∃ M, m = .int .i64 M ∧ Hid (M = manyL (L.take j))) ∧ ∃ d, w2 = wr.drewN d) (fun _ _ i _ => k - (intOf i).toNat)
        case atStart => exact ⟨0, Nat.zero_le _, rfl, ⟨0, rfl, Lib.hid rfl⟩, 0, rfl⟩
        case round =>
          obtain ⟨j, hj, rfl, ⟨M, rfl, hMM⟩, d, rfl⟩ := hrel
          by_cases hjk : j < k
          · have hjb : decide ((j : Int) < (k : Int)) = true := decide_eq_true (by omega)
            have hjn : (j : Int) < (k : Int) := by omega
            have hj0 : (0 : Int) ≤ (j : Int) := by omega
            obtain ⟨x, hx⟩ : ∃ x, L[j]? = some x := ⟨_, List.getElem?_eq_getElem (by rw [← HN.out]; exact hjk)⟩
            obtain ⟨g6, cap6, e6, _, _, hc6⟩ := own_row h6.out (by omega)
            obtain ⟨g7, cap7, e7, _, _, hc7⟩ := own_row h7.out (by omega)
            obtain rfl : a6 = some ⟨g6, 0, none⟩ := by cases e6; rfl
            obtain rfl : a7 = some ⟨g7, 0, none⟩ := by cases e7; rfl
            have y6 : wr.cell? ⟨g6, j, none⟩ = some (.int .i64 (numF x)) := by
              have := hc6 j _ (by rw [List.getElem?_map, hx]; rfl)
              rwa [Nat.zero_add] at this
            have y7 : wr.cell? ⟨g7, j, none⟩ = some (.int .i64 (numL x)) := by
              have := hc7 j _ (by rw [List.getElem?_map, hx]; rfl)
              rwa [Nat.zero_add] at this
            have hT := manyL_take hx
            have hR := manyL_rng (L.take j)
            rw [← hMM.out] at hT hR
            rw [List.length_take] at hR
            have n1 : (0 : Int) ≤ numF x ∧ numF x ≤ 1000000000 := intV_rng _
            have n2 : (0 : Int) ≤ numL x ∧ numL x ≤ 1000000000 := intV_rng _
            generalize numF x = a at *
            generalize numL x = b at *
            have hmn : ((min j L.length : Nat) : Int) ≤ 1000000002 := by omega
            have v1 : IntKind.i64.wrap (b - a) = b - a := IntWalk.i64_in _ (by omega)
            have v2 : IntKind.i64.wrap (b - a + 1) = b - a + 1 := IntWalk.i64_in _ (by omega)
            have v3 : IntKind.i64.wrap (M + (b - a + 1)) = M + (b - a + 1) := IntWalk.i64_in _ (by omega)
            have HT := Lib.hid hT
            clear hT hR hx hc6 hc7 e6 e7
            go_wp2
            go_quiet (fail)
            go_wp2
            go_roundw
            case rel => exact ⟨j + 1, by omega, by go_num, ⟨_, rfl, Lib.hid HT.out.symm⟩, _, rfl⟩
            case measure => simp [intOf]; omega
          · obtain rfl : j = k := by omega
            have hjb : decide ((j : Int) < (j : Int)) = false := decide_eq_false (by omega)
            have hm5 : decide ((500 : Int) < M) = true := by
              have := hMM.out
              rw [List.take_of_length_le (by rw [HN.out]; exact Nat.le_refl _)] at this
              rw [this]; exact decide_eq_true HM.out
            have hm6 : (500 : Int) < M := of_decide_eq_true hm5
            go_wp2
            go_ret2
            exact ⟨rfl, below_drewN hbw _⟩
end Go.Proofs.YtoapfldmkpobmaaGreatDoor
