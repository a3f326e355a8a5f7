/- Layer 2: Print. -/
import Derived.Test.YtnegnmjjibhldaaN
import Derived.Lib.BufferRead
namespace Go.Proofs.Ytnegnmjjibhldaa
open Go.RowKit
def u8v (c : UInt8) : Value := .int .u8 c.toNat
theorem u8v_one (l : List UInt8) : ∀ v ∈ l.map u8v, v.oneCell' = true := by
  intro v hv
  obtain ⟨c, _, rfl⟩ := List.mem_map.1 hv
  rfl
theorem info_u8 : (Try.prog.info? 5).map (fun i => (i.zero, i.size, i.bytes)) = some (some (.int .u8 0), 1, 1) := by kernel_rfl
/-- A row of bytes that the call made, from block B on. -/
def OwnB (W : World) (B : Nat) (v : Value) (l : List UInt8) : Prop := W.ownsRow B 5 1 v l.length (l.map u8v)
theorem OwnB.below {W W' : World} {B : Nat} {v : Value} {l : List UInt8} (h : OwnB W B v l) (hb : Below W.heap.size W W') : OwnB W' B v l := by
  refine ⟨h.1, ?_⟩
  rcases h.2 with h1 | ⟨g, cap, cur, e, hg, hh, r⟩
  · exact .inl h1
  · refine .inr ⟨g, cap, cur, e, hg, ?_, r⟩
    have hlt := (World.ownsRow.lt h g (by rw [e]; rfl)).2
    rw [hb.block g hlt]; exact hh
theorem wpList_appB {ops : Array Oper} {rest : List Oper} {o : Oper} {a : Act} {Q : Exit → Act → World → Prop} {w : World} (hgd : o.guard = none) (s x : Operand)
    (ho : o.op = .call { callee := .builtin .append, args := #[s, x], argTypes := #[66, 66] }) (B : Nat) (v : Value) (l : List UInt8) (c : UInt8)
    (hs : a.eval s = v) (hx : a.eval x = .slice (some ⟨w.heap.size, 0, none⟩) 1 1) (hown : OwnB w B v l) (hB : B ≤ w.heap.size) (hl : l.length ≤ 1000000000)
    (h : ∀ v' w1, OwnB w1 B v' (l ++ [c]) → Below B w w1 → wpList Try.prog ops Q rest (a.put o.dst v') w1) :
    wpList Try.prog ops Q (o :: rest) a (w.alloc (.cells #[.int .u8 (c.toNat : Int)] 5)) := by
  obtain ⟨i0, hi, hz0, hz1, hz2⟩ := info_parts info_u8
  refine wpList_append_own _ hgd s x 66 ho B 5 i0 (.int .u8 0) 1 1 Try.underlying66 hi hz0 hz1 hz2 rfl (by decide) v l.length (l.map u8v) hs (World.ownsRow.alloc hown _) ⟨w.heap.size, 0, none⟩ 1 1 [.int .u8 (c.toNat : Int)] hx rfl (cell_one_new _ _ _) (by simp [Value.oneCell']) (by simp only [maxLen]; omega) (by omega) (by simp; omega) ?_
  intro v' w1 hown' hg _
  refine h v' w1 ?_ (((Below.refl B w).alloc hB _).grown hg (by simp; omega) (fun k e => (World.ownsRow.lt hown k e).1))
  unfold OwnB
  rw [List.length_append, List.map_append]
  exact hown'
def hexd (d : Nat) : UInt8 := ([48, 49, 50, 51, 52, 53, 54, 55, 56, 57, 97, 98, 99, 100, 101, 102] : List UInt8).getD d 0
def wordUpto (x k : Nat) : List UInt8 := (List.range k).map fun n => hexd (x / 2 ^ (60 - 4 * n) % 16)
theorem wordUpto_succ (x k : Nat) : wordUpto x (k + 1) = wordUpto x k ++ [hexd (x / 2 ^ (60 - 4 * k) % 16)] := by
  unfold wordUpto; rw [List.range_succ, List.map_append]; rfl
theorem wordUpto_len (x k : Nat) : (wordUpto x k).length = k := by simp [wordUpto]
theorem nib {x m : Nat} (hx : x < 2 ^ 64) : bits .and .u64 ((x : Int) / 2 ^ m) 15 = ((x / 2 ^ m % 16 : Nat) : Int) := by
  have e : (x : Int) / 2 ^ m = ((x / 2 ^ m : Nat) : Int) := by rw [← pow_cast]; rfl
  have hle : x / 2 ^ m ≤ x := Nat.div_le_self _ _
  rw [e, show (15 : Int) = ((15 : Nat) : Int) from rfl, u64_and_nat _ _ (by omega) (by omega), show 15 = 2 ^ 4 - 1 from rfl, Nat.and_two_pow_sub_one_eq_mod]
theorem hex_index (d : Nat) (hd : d < 16) (w : World) : (Instr.index 9 (.string ⟨#[48, 49, 50, 51, 52, 53, 54, 55, 56, 57, 97, 98, 99, 100, 101, 102]⟩) (.int .u64 (d : Int))).run Try.prog w = .ok (.int .u8 ((hexd d).toNat : Int)) w := by
  rcases d with _ | _ | _ | _ | _ | _ | _ | _ | _ | _ | _ | _ | _ | _ | _ | _ | d
  all_goals first | omega | kernel_rfl
set_option maxRecDepth 100000 in
theorem appWord_any (B : Nat) (v : Value) (l : List UInt8) (x : Nat) (w : World) (hx : x < 2 ^ 64) (hown : OwnB w B v l) (hB : B ≤ w.heap.size) (hl : l.length ≤ 1000000) :
    Calls Try.prog 50 #[v, .int .u64 (x : Int)] w fun e w' => ∃ v', e = .returned v' ∧ OwnB w' B v' (l ++ wordUpto x 16) ∧ Below B w w' := by
  have HX := Lib.hid hx
  clear hx
  go_enter Try.func50, Try.ntmps50
  go_wp2
  go_loopw [0, 5, 6, 7] (fun t _ _ i wr => ∃ k : Nat, k ≤ 16 ∧ i = .int .i64 k ∧ OwnB wr B t (l ++ wordUpto x k) ∧ Below B w wr) (fun _ _ _ i _ => 16 - (intOf i).toNat)
  case atStart => exact ⟨0, by omega, rfl, by simpa [wordUpto] using hown, Below.refl _ _⟩
  case round =>
    obtain ⟨k, hk, rfl, hown2, hb⟩ := hrel
    by_cases hlt : k < 16
    · have hltb : decide ((k : Int) < 16) = true := decide_eq_true (by omega)
      have hs : 64 - 4 * ((k : Int) + 1) = ((60 - 4 * k : Nat) : Int) := by omega
      have e1 := nib (x := x) (m := 60 - 4 * k) HX.out
      have e2 := hex_index (x / 2 ^ (60 - 4 * k) % 16) (Nat.mod_lt _ (by omega))
      have S := Lib.hid (wordUpto_succ x k)
      generalize x / 2 ^ (60 - 4 * k) % 16 = d at *
      generalize hexd d = h at *
      have HO := Lib.hid hown2
      have hlen : (l ++ wordUpto x k).length ≤ 1000000000 := by rw [List.length_append, wordUpto_len]; omega
      have hBw : B ≤ wr.heap.size := Nat.le_trans hB hb.size
      clear hown2 hown
      go_wp2_with (at_builtin; refine wpList_appB rfl _ _ rfl B _ (l ++ wordUpto x k) h (by rfl) (by rfl) HO.out hBw hlen ?_; intro v' w1 hown1 hb1)
      go_roundw
      case rel => exact ⟨k + 1, by omega, by go_num, by rw [S.out, ← List.append_assoc]; exact hown1, hb.trans hb1⟩
      case measure => simp [intOf]; omega
    · obtain rfl : k = 16 := by omega
      have HO := Lib.hid hown2
      clear hown2 hown
      go_wp2
      go_ret
      exact ⟨_, rfl, HO.out, hb⟩
theorem conv_own {B n : Nat} {v : Value} {l : List UInt8} {w : World} (h : w.ownsRow B 5 1 v n (l.map u8v)) : (convert 66 9 v).run Try.prog w = .ok (.string ⟨l.toArray⟩) w := by
  have hn : n = l.length := by have := h.1; simp at this; omega
  rcases h.2 with ⟨rfl, h0⟩ | ⟨g, cap, cur, rfl, _⟩
  · have : l = [] := by apply List.eq_nil_of_length_eq_zero; omega
    subst this
    exact Lib.run_convert_nil_bytes w _ _ 5 0 Try.underlying66 Try.underlying5 Try.underlying9
  · subst hn
    have hc := h.cells (g := g) rfl
    exact run_convert_bytes_back (P := Try.prog) w 66 9 5 ⟨g, 0, none⟩ cap l Try.underlying66 Try.underlying5 Try.underlying9 (fun j hj => hc j _ (by simp [hj]; rfl))
def printTo (xs : List Nat) (k : Nat) : List UInt8 := (List.range k).flatMap fun n => (if n = 0 then [] else [46]) ++ wordUpto (xs.getD (xs.length - 1 - n) 0) 16
def printL (xs : List Nat) : List UInt8 := if chk xs.length = 0 then printTo xs xs.length else []
theorem printTo_succ (xs : List Nat) (k : Nat) : printTo xs (k + 1) = printTo xs k ++ ((if k = 0 then [] else [46]) ++ wordUpto (xs.getD (xs.length - 1 - k) 0) 16) := by
  unfold printTo; rw [List.range_succ, List.flatMap_append]; simp
theorem printTo_len (xs : List Nat) (k : Nat) : (printTo xs k).length ≤ 17 * k := by
  induction k with
  | zero => simp [printTo]
  | succ k ih =>
    rw [printTo_succ, List.length_append, List.length_append, wordUpto_len]
    split <;> simp <;> omega
def TextPost (w : World) (l : List UInt8) (E : Int) (e : Ending) (w' : World) : Prop := e = .returned (.tuple #[.string ⟨l.toArray⟩, .int .i64 E]) ∧ Below w.heap.size w w'
set_option maxRecDepth 100000 in
theorem print_any (v : Value) (xs : List Nat) (w : World) (hv : URow w v xs) (hw : Wf xs) : Calls Try.prog 37 #[v] w (TextPost w (printL xs) (chk xs.length)) := by
  have C := Lib.hid (check_any v xs w hv)
  by_cases h0 : chk xs.length = 0
  · have h01 := chk_zero h0
    have hne : (chk xs.length != 0) = false := by simp [h0]
    have R := Lib.hid (show printL xs = printTo xs xs.length by unfold printL; rw [if_pos h0])
    have E := Lib.hid h0
    obtain ⟨b, o, c, rfl, hc, hx⟩ := hv.later h01.1
    generalize hxn : xs.length = n at *
    have HN := Lib.hid hxn
    have HC := Lib.hid hx
    clear hx hxn h0
    go_enter Try.func37, Try.ntmps37
    go_wp2_with (go_at_call 14; refine C.out.mono ?_; rintro e w' ⟨rfl, rfl⟩)
    go_loopw [5, 6, 14] (fun t _ i wr => ∃ k : Nat, k ≤ n ∧ i = .int .i64 k ∧ OwnB wr w.heap.size t (printTo xs k) ∧ Below w.heap.size w wr) (fun _ _ i _ => n - (intOf i).toNat)
    case atStart => exact ⟨0, by omega, rfl, World.ownsRow_nil _ _ _ _, Below.refl _ _⟩
    case round =>
      obtain ⟨k, hk, rfl, hown, hb⟩ := hrel
      by_cases hlt : k < n
      · obtain ⟨j, hj⟩ : ∃ j, j + 1 + k = n := ⟨n - 1 - k, by omega⟩
        obtain ⟨x, hx⟩ : ∃ x, xs[j]? = some x := ⟨_, List.getElem?_eq_getElem (by rw [HN.out]; omega)⟩
        have hxd : xs.getD (xs.length - 1 - k) 0 = x := by rw [HN.out, show n - 1 - k = j by omega, List.getD_eq_getElem?_getD, hx]; rfl
        have S := Lib.hid (printTo_succ xs k)
        rw [hxd] at S
        have hx64 := Lib.hid (hw x (List.mem_of_getElem? hx))
        have hlen := printTo_len xs k
        have hlen2 := Lib.hid (show (printTo xs k).length ≤ 1000 by omega)
        have hji : (n : Int) - 1 - (k : Int) = (j : Int) := by omega
        have hjn : j < n := by omega
        have hbs := hb.size
        have HO := Lib.hid hown
        by_cases hk0 : k = 0
        · subst hk0
          have hji0 : (n : Int) - 1 = (j : Int) := by omega
          clear hji
          have hcell := HC.out _ j x hb hx
          have AW := Lib.hid (appWord_any w.heap.size _ (printTo xs 0) x _ hx64.out hown hbs (by have := hlen2.out; omega))
          have HJ := Lib.hid hj
          clear hj hx hxd hown hlen
          go_wp2_with (go_at_call 50; refine AW.out.mono ?_; rintro e w2 ⟨v2, rfl, ho2, hb2⟩)
          go_roundw
          case rel => exact ⟨1, by omega, rfl, by rw [S.out, if_pos trivial]; exact ho2, hb.trans hb2⟩
          case measure => simp [intOf]; omega
        · have hkp : decide ((0 : Int) < (k : Int)) = true := decide_eq_true (by omega)
          have hkn : 0 < k := by omega
          have CELL := Lib.hid (fun w' (h : Below w.heap.size w w') => HC.out w' j x h hx)
          have AW := Lib.hid (fun v' w' (h : OwnB w' w.heap.size v' (printTo xs k ++ [46])) (h2 : w.heap.size ≤ w'.heap.size) => appWord_any w.heap.size v' (printTo xs k ++ [46]) x w' hx64.out h h2 (by have := hlen2.out; simp; omega))
          have hl3 : (printTo xs k).length ≤ 1000000000 := by omega
          have HK := Lib.hid (show ¬ k = 0 by omega)
          clear hj hx hxd hown hlen hk0
          go_wp2_with (first
            | (at_builtin; refine wpList_appB rfl _ _ rfl w.heap.size _ (printTo xs k) 46 (by rfl) (by rfl) HO.out hbs hl3 ?_; intro v1 w1 ho1 hb1; have hb1' := hb.trans hb1; have hcell := CELL.out w1 hb1'; have hbs1 := hb1'.size)
            | (go_at_call 50; refine (AW.out _ _ ho1 hbs1).mono ?_; rintro e w2 ⟨v2, rfl, ho2, hb2⟩))
          go_roundw
          case rel => exact ⟨k + 1, by omega, by go_num, by rw [S.out, if_neg HK.out, ← List.append_assoc]; exact ho2, hb1'.trans hb2⟩
          case measure => simp [intOf]; omega
      · obtain rfl : k = n := by omega
        have hcv := conv_own hown
        clear hown
        go_wp2
        go_ret2
        exact ⟨by rw [E.out, R.out]; rfl, hb⟩
  · have hne : (chk xs.length != 0) = true := by simp [h0]
    have R := Lib.hid (show printL xs = [] by unfold printL; rw [if_neg h0])
    clear h0
    go_enter Try.func37, Try.ntmps37
    go_wp2_with (go_at_call 14; refine C.out.mono ?_; rintro e w' ⟨rfl, rfl⟩)
    go_ret2
    exact ⟨by rw [R.out]; rfl, Below.refl _ _⟩
end Go.Proofs.Ytnegnmjjibhldaa
