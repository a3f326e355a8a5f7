/- Layer 2: Of, Ones, Count of the reference. -/
import Derived.Test.YtnegnmjjibhldaaK
namespace Go.Proofs.Ytnegnmjjibhldaa
open Go.RowKit
set_option maxHeartbeats 400000 in
set_option maxRecDepth 100000 in
theorem rof_any (n : Int) (v : Value) (zs : List Int) (w : World) (hv : IRow w v zs) (hl : zs.length ≤ 1000000) : Calls Try.prog 25 #[.int .i64 n, v] w (RowPost w (ofR n zs) (ofE n zs)) := by
  by_cases hr : n < 1 ∨ 8 < n
  · obtain ⟨e1, e2⟩ := of_bad zs hr
    by_cases h1 : n < 1
    · rw [if_pos h1] at e1
      have E := Lib.hid e1
      have R := Lib.hid e2
      clear hr e1 e2
      go_enter Try.func25, Try.ntmps25
      go_wp2
      go_ret2
      exact ⟨.slice none 0 0, by rw [E.out]; rfl, by rw [R.out]; exact URow.none _, Below.refl _ _⟩
    · rw [if_neg h1] at e1
      have E := Lib.hid e1
      have R := Lib.hid e2
      have h8 : 8 < n := by omega
      clear hr e1 e2
      go_enter Try.func25, Try.ntmps25
      go_wp2
      go_ret2
      exact ⟨.slice none 0 0, by rw [E.out]; rfl, by rw [R.out]; exact URow.none _, Below.refl _ _⟩
  · obtain ⟨m, rfl⟩ : ∃ m : Nat, n = m := ⟨n.toNat, by omega⟩
    have t1 : decide ((m : Int) < 1) = false := decide_eq_false (by omega)
    have t2 : decide ((8 : Int) < (m : Int)) = false := decide_eq_false (by omega)
    have hm : 0 < m ∧ m ≤ 8 := by omega
    have EK := Lib.hid (show okL m zs = true → ofE m zs = 0 ∧ ofR m zs = mkRow m (inL zs) from fun h => by
      have : ofE m zs = 0 := by unfold ofE; rw [if_neg (by omega), if_neg (by omega), Int.toNat_natCast, h]; rfl
      exact ⟨this, by unfold ofR; rw [if_pos this]; rfl⟩)
    have EN := Lib.hid (show okL m zs = false → ofE m zs = 7 ∧ ofR m zs = [] from fun h => by
      have : ofE m zs = 7 := by unfold ofE; rw [if_neg (by omega), if_neg (by omega), Int.toNat_natCast, h]; rfl
      exact ⟨this, by unfold ofR; rw [if_neg (by rw [this]; decide)]⟩)
    have MK := mk_any m (by omega)
    obtain ⟨p, c, rfl, hz⟩ := hv.form
    have HZ := Lib.hid hz
    obtain ⟨l, hll⟩ : ∃ l, l = zs.length := ⟨_, rfl⟩
    rw [← hll] at hl ⊢
    have HL := Lib.hid hll
    clear hr hz hll hv
    go_enter Try.func25, Try.ntmps25
    go_wp2
    go_loopw [6, 7] (fun r i wr => ∃ k g c : Nat, k ≤ l ∧ i = .int .i64 k ∧ r = rowV g m c ∧ w.heap.size ≤ g ∧ Hid (okL m (zs.take k) = true) ∧ Own64 wr g c (mkRow m (inL (zs.take k))) ∧ Below w.heap.size w wr) (fun _ i _ => l - (intOf i).toNat)
    case atStart =>
      refine ⟨0, w.heap.size, m, Nat.zero_le _, rfl, rfl, Nat.le_refl _, Lib.hid rfl, ?_, (Below.refl _ w).alloc (Nat.le_refl _) _⟩
      rw [mkRow_zero _ _ (fun j _ => by simp [inL])]
      exact made_own w m (by omega)
    case round =>
      obtain ⟨k, g, c', hk, rfl, rfl, hg, hok, hown, hb⟩ := hrel
      by_cases hlt : k < l
      · have hltb : decide ((k : Int) < (l : Int)) = true := decide_eq_true (by omega)
        obtain ⟨z, hx⟩ : ∃ z, zs[k]? = some z := ⟨_, List.getElem?_eq_getElem (by rw [← HL.out]; exact hlt)⟩
        obtain ⟨b, o, rfl, hbb, hcell⟩ := HZ.out wr k z hb hx
        by_cases hh : hasB m z = true
        · obtain ⟨j, rfl, hj⟩ := hasB_true hh
          have u1 : decide ((j : Int) < 0) = false := decide_eq_false (by omega)
          have u2 : decide (64 * (m : Int) ≤ (j : Int)) = false := decide_eq_false (by omega)
          have HX := Lib.hid hx
          have HHH := Lib.hid hh
          have WS := Lib.hid (with_step m j true (F := inL (zs.take k)) (G := inL (zs.take (k + 1))) hown (by omega) hj (fun i _ => inL_take hx i))
          clear hx hown hh hj
          go_wp2_with (go_at_call 43; refine WS.out.mono ?_; rintro e w1 ⟨g1, c1, rfl, hg1, ho1, hb1⟩)
          go_roundw
          case rel => exact ⟨k + 1, g1, c1, by omega, by go_num, rfl, by have := hb.size; omega, Lib.hid (okL_take HX.out hok.out HHH.out), ho1, hb.trans (hb1.mono hb.size)⟩
          case measure => simp [intOf]; omega
        · have hh : hasB m z = false := by simpa using hh
          have B := Lib.hid (EN.out (okL_bad hx hh))
          by_cases hneg : z < 0
          · have u1 : decide (z < 0) = true := decide_eq_true hneg
            clear hx hown hh
            go_wp2
            go_ret2
            exact ⟨.slice none 0 0, by rw [B.out.1]; rfl, by rw [B.out.2]; exact URow.none _, hb⟩
          · have u1 : decide (z < 0) = false := decide_eq_false hneg
            have u2 : decide (64 * (m : Int) ≤ z) = true := decide_eq_true (by unfold hasB at hh; simp at hh; omega)
            clear hx hown hh
            go_wp2
            go_ret2
            exact ⟨.slice none 0 0, by rw [B.out.1]; rfl, by rw [B.out.2]; exact URow.none _, hb⟩
      · obtain rfl : k = l := by omega
        have hltb : decide ((k : Int) < (k : Int)) = false := decide_eq_false (by omega)
        have hall : zs.take k = zs := List.take_of_length_le (by rw [HL.out]; exact Nat.le_refl _)
        have G := Lib.hid (EK.out (by have := hok.out; rwa [hall] at this))
        have HO := Lib.hid (show URow wr (rowV g m c') (mkRow m (inL zs)) from by
          rw [hall] at hown
          have := hown.row
          rw [mkRow_len] at this
          exact this)
        clear hown hall
        go_wp2
        go_ret2
        exact ⟨rowV g m c', by rw [G.out.1]; rfl, by rw [G.out.2]; exact HO.out, hb⟩
def i64v (z : Int) : Value := .int .i64 z
theorem i64_info : (Try.prog.info? 3).map (fun i => (i.zero, i.size, i.bytes)) = some (some (.int .i64 0), 1, 8) := by kernel_rfl
/-- A row of ints that the call made, from block B on. -/
def OwnI (W : World) (B : Nat) (v : Value) (zs : List Int) : Prop := W.ownsRow B 3 1 v zs.length (zs.map i64v)
theorem OwnI.row {W : World} {B : Nat} {v : Value} {zs : List Int} (h : OwnI W B v zs) : IRow W v zs := by
  rcases h.2 with ⟨rfl, h0⟩ | ⟨g, cap, cur, rfl, _, hg, hn, _, hs, ht⟩
  · refine ⟨none, 0, by rw [h0], by omega, fun i x hi => ?_⟩
    have := (List.getElem?_eq_some_iff.1 hi).1; omega
  · refine ⟨_, cap, rfl, hn, fun i x hi => ⟨g, 0, rfl, ?_⟩⟩
    have hlt := (List.getElem?_eq_some_iff.1 hi).1
    rw [Nat.zero_add, World.ownsRow.cellAt h i (by omega), List.getElem?_map, hi]
    rfl
theorem wpList_appI {ops : Array Oper} {rest : List Oper} {o : Oper} {a : Act} {Q : Exit → Act → World → Prop} {w : World} (hgd : o.guard = none) (s x : Operand)
    (ho : o.op = .call { callee := .builtin .append, args := #[s, x], argTypes := #[23, 23] }) (B : Nat) (v : Value) (zs : List Int) (z : Int)
    (hs : a.eval s = v) (hx : a.eval x = .slice (some ⟨w.heap.size, 0, none⟩) 1 1) (hown : OwnI w B v zs) (hB : B ≤ w.heap.size) (hl : zs.length ≤ 1000000)
    (h : ∀ v' w1, OwnI w1 B v' (zs ++ [z]) → Below B w w1 → wpList Try.prog ops Q rest (a.put o.dst v') w1) :
    wpList Try.prog ops Q (o :: rest) a (w.alloc (.cells #[.int .i64 z] 3)) := by
  obtain ⟨i0, hi, hz0, hz1, hz2⟩ := info_parts i64_info
  refine wpList_append_own _ hgd s x 23 ho B 3 i0 (.int .i64 0) 1 8 Try.underlying23 hi hz0 hz1 hz2 rfl (by decide) v zs.length (zs.map i64v) hs (World.ownsRow.alloc hown _) ⟨w.heap.size, 0, none⟩ 1 1 [.int .i64 z] hx rfl (cell_one_new _ _ _) (by simp [Value.oneCell']) (by simp only [maxLen]; omega) (by omega) (by simp; omega) ?_
  intro v' w1 hown' hg _
  refine h v' w1 ?_ (((Below.refl B w).alloc hB _).grown hg (by simp; omega) (fun k e => (World.ownsRow.lt hown k e).1))
  unfold OwnI
  rw [List.length_append, List.map_append]
  exact hown'
def onesZ (xs : List Nat) (k : Nat) : List Int := ((List.range k).filter (rbit xs)).map fun i : Nat => (i : Int)
theorem onesZ_succ (xs : List Nat) (k : Nat) : onesZ xs (k + 1) = onesZ xs k ++ if rbit xs k then [(k : Int)] else [] := by
  unfold onesZ
  rw [onesUpto_succ, List.map_append]
  cases rbit xs k <;> simp
theorem onesZ_le (xs : List Nat) (k : Nat) : (onesZ xs k).length ≤ k := by
  unfold onesZ; rw [List.length_map]
  have := List.length_filter_le (rbit xs) (List.range k)
  simpa using this
def onesR (xs : List Nat) : List Int := if chk xs.length = 0 then onesZ xs (64 * xs.length) else []
/-- A list of ints and an error are returned. -/
def IntPost (w : World) (zs : List Int) (E : Int) (e : Ending) (w' : World) : Prop := ∃ v, e = .returned (.tuple #[v, .int .i64 E]) ∧ IRow w' v zs ∧ Below w.heap.size w w'
theorem IRow.none (w : World) : IRow w (.slice none 0 0) [] := ⟨_, 0, rfl, Nat.zero_le _, fun i x h => by simp at h⟩
set_option maxRecDepth 100000 in
theorem rones_any (v : Value) (xs : List Nat) (w : World) (hv : URow w v xs) (hw : Wf xs) : Calls Try.prog 22 #[v] w (IntPost w (onesR xs) (chk xs.length)) := by
  have C := Lib.hid (rcheck_any v xs w hv)
  by_cases h0 : chk xs.length = 0
  · have hlt := chk_zero h0
    have hne : (chk xs.length != 0) = false := by simp [h0]
    have R := Lib.hid (show onesR xs = onesZ xs (64 * xs.length) by unfold onesR; rw [if_pos h0])
    have E := Lib.hid h0
    have GA := Lib.hid (fun w' i (h : Below w.heap.size w w') hi => rget0_any v xs i w' (hv.below h) hw (by omega) hi)
    obtain ⟨p, c, rfl, _, _⟩ := hv
    generalize xs.length = n at *
    clear h0
    go_enter Try.func22, Try.ntmps22
    go_wp2_with (go_at_call 15; refine C.out.mono ?_; rintro e w' ⟨rfl, rfl⟩)
    go_loopw [5, 6] (fun r i wr => ∃ k : Nat, k ≤ 64 * n ∧ i = .int .i64 k ∧ OwnI wr w.heap.size r (onesZ xs k) ∧ Below w.heap.size w wr) (fun _ i _ => 64 * n - (intOf i).toNat)
    case atStart => exact ⟨0, Nat.zero_le _, rfl, World.ownsRow_nil _ _ _ _, Below.refl _ _⟩
    case round =>
      obtain ⟨k, hk, rfl, hown, hb⟩ := hrel
      by_cases hlt2 : k < 64 * n
      · have hltb : decide ((k : Int) < 64 * (n : Int)) = true := decide_eq_true (by omega)
        have A := Lib.hid (GA.out _ k hb hlt2)
        have hlen := onesZ_le xs k
        have S := Lib.hid (onesZ_succ xs k)
        rcases ha : rbit xs k with _ | _
        · rw [ha] at A S
          have HO := Lib.hid hown
          clear ha hown
          go_wp2_with (go_at_call 40; refine A.out.mono ?_; rintro e w' ⟨rfl, rfl⟩)
          go_roundw
          case rel => exact ⟨k + 1, by omega, by go_num, by rw [S.out]; simpa using HO.out, hb⟩
          case measure => simp [intOf]; omega
        · rw [ha] at A S
          have HO := Lib.hid hown
          have hbs := hb.size
          clear ha hown
          go_wp2_with (first
            | (go_at_call 40; refine A.out.mono ?_; rintro e w' ⟨rfl, rfl⟩)
            | (at_builtin; refine wpList_appI rfl _ _ rfl w.heap.size _ (onesZ xs k) k (by rfl) (by rfl) HO.out hbs (by omega) ?_; intro v' w1 hown1 hb1))
          go_roundw
          case rel => exact ⟨k + 1, by omega, by go_num, by rw [S.out]; exact hown1, hb.trans hb1⟩
          case measure => simp [intOf]; omega
      · obtain rfl : k = 64 * n := by omega
        have hltb : decide (((64 * n : Nat) : Int) < 64 * (n : Int)) = false := decide_eq_false (by omega)
        have HO := Lib.hid hown
        clear hown
        go_wp2
        go_ret2
        exact ⟨_, by rw [E.out]; rfl, by rw [R.out]; exact HO.out.row, hb⟩
  · have hne : (chk xs.length != 0) = true := by simp [h0]
    have R := Lib.hid (show onesR xs = [] by unfold onesR; rw [if_neg h0])
    clear h0
    go_enter Try.func22, Try.ntmps22
    go_wp2_with (go_at_call 15; refine C.out.mono ?_; rintro e w' ⟨rfl, rfl⟩)
    go_ret2
    exact ⟨.slice none 0 0, rfl, by rw [R.out]; exact IRow.none _, Below.refl _ _⟩
def NumPost (w : World) (n : Nat) (E : Int) (e : Ending) (w' : World) : Prop := e = .returned (.tuple #[.int .i64 (n : Int), .int .i64 E]) ∧ Below w.heap.size w w'
theorem rcount_any (v : Value) (xs : List Nat) (w : World) (hv : URow w v xs) (hw : Wf xs) : Calls Try.prog 20 #[v] w (NumPost w (onesR xs).length (chk xs.length)) := by
  have C := Lib.hid (rones_any v xs w hv hw)
  unfold IntPost at C
  generalize onesR xs = zs at *
  go_enter Try.func20, Try.ntmps20
  go_wp2_with (go_at_call 22; refine C.out.mono ?_; rintro e w' ⟨v', rfl, ⟨p, c, rfl, _, _⟩, hb⟩)
  go_ret2
  exact ⟨rfl, hb⟩
end Go.Proofs.Ytnegnmjjibhldaa
