/- Layer 3: skip, readHex, readByte. -/
import Derived.Test.YtedbhjladpfafaaP
namespace Go.Proofs.Ytedbhjladpfafaa
open Go.RowKit
theorem length_data (s : ByteArray) : s.data.toList.length = s.size := by rw [Array.length_toList]; rfl
theorem str_ix (s : ByteArray) (k : Nat) (c : UInt8) (h : s.data.toList[k]? = some c) (w : World) : (Instr.index 9 (.string s) (.int .i64 (k : Int))).run Try.prog w = .ok (.int .u8 (c.toNat : Int)) w := by
  have hk : k < s.size := by rw [← length_data]; exact (List.getElem?_eq_some_iff.1 h).1
  have e : s[k] = c := by
    obtain ⟨_, e⟩ := List.getElem?_eq_some_iff.1 h
    rw [← e]; rfl
  simp [go_sem, hk, e]
def skipB (l : List UInt8) (k : Nat) (b : UInt8) : Bool := l[k]? == some b
/-- The index behind a byte that may be there. -/
def skipN (l : List UInt8) (k : Nat) (b : UInt8) : Nat := if skipB l k b then k + 1 else k
theorem skip_any (s : ByteArray) (k : Nat) (b : UInt8) (w : World) (hk : k ≤ 1000000000) :
    Calls Try.prog 50 #[.string s, .int .i64 (k : Int), .int .u8 (b.toNat : Int)] w fun e w' => e = .returned (.tuple #[.int .i64 (skipN s.data.toList k b : Nat), .bool (skipB s.data.toList k b)]) ∧ w = w' := by
  by_cases hlt : k < s.size
  · obtain ⟨c, hc⟩ : ∃ c, s.data.toList[k]? = some c := ⟨_, List.getElem?_eq_getElem (by rw [length_data]; exact hlt)⟩
    have hix := fun w => str_ix s k c hc w
    have hltb : decide ((k : Int) < (s.size : Int)) = true := decide_eq_true (by omega)
    by_cases he : c = b
    · have hs : skipB s.data.toList k b = true := by unfold skipB; rw [hc, he]; simp
      have H := Lib.hid (show skipN s.data.toList k b = k + 1 by unfold skipN; rw [if_pos hs])
      have HS := Lib.hid hs
      have heq : ((c.toNat : Int) == (b.toNat : Int)) = true := by rw [he]; simp
      clear hs hc
      go_enter Try.func50, Try.ntmps50
      go_wp2
      go_ret2
      exact ⟨by rw [H.out, HS.out]; rfl, rfl⟩
    · have hs : skipB s.data.toList k b = false := by unfold skipB; rw [hc]; simpa using he
      have H := Lib.hid (show skipN s.data.toList k b = k by unfold skipN; rw [if_neg (by simp [hs])])
      have HS := Lib.hid hs
      have heq : ((c.toNat : Int) == (b.toNat : Int)) = false := by
        rw [beq_eq_false_iff_ne]; intro e; exact he (UInt8.toNat_inj.1 (by omega))
      clear hs hc
      go_enter Try.func50, Try.ntmps50
      go_wp2
      go_ret2
      exact ⟨by rw [H.out, HS.out]; rfl, rfl⟩
  · have hltb : decide ((k : Int) < (s.size : Int)) = false := decide_eq_false (by omega)
    have hs : skipB s.data.toList k b = false := by unfold skipB; rw [List.getElem?_eq_none (by rw [length_data]; omega)]; rfl
    have H := Lib.hid (show skipN s.data.toList k b = k by unfold skipN; rw [if_neg (by simp [hs])])
    have HS := Lib.hid hs
    clear hs
    go_enter Try.func50, Try.ntmps50
    go_wp2
    go_ret2
    exact ⟨by rw [H.out, HS.out]; rfl, rfl⟩
/-- The value of a hexadecimal digit, or -1. -/
def hexV (c : UInt8) : Int := Lib.indexByte hexC c
theorem hexV_cases (c : UInt8) : hexV c = -1 ∨ ∃ k : Nat, k < 16 ∧ hexV c = (k : Int) := by
  have : ∀ c : Fin 256, hexV (UInt8.ofNat c.val) = -1 ∨ ∃ k : Fin 16, hexV (UInt8.ofNat c.val) = (k.val : Int) := by decide +kernel
  have h := this ⟨c.toNat, c.toNat_lt⟩
  simp only [UInt8.ofNat_toNat] at h
  rcases h with h1 | ⟨k, h1⟩
  · exact .inl h1
  · exact .inr ⟨k.val, k.isLt, h1⟩
theorem index_any (c : UInt8) (w : World) : Calls Try.prog 58 #[.string hexS, .int .u8 (c.toNat : Int)] w fun e w' => e = .returned (.int .i64 (hexV c)) ∧ w = w' :=
  (Try.strings_IndexByte hexS c.toNat w).mono (by rintro e w' ⟨rfl, rfl⟩; exact ⟨by unfold hexV; simp; rfl, rfl⟩)
/-- The two digits of a byte from k on: the byte, the index behind them or of what is none, and whether they are there. -/
def hexB (l : List UInt8) (k : Nat) : Nat × Nat × Bool :=
  match l[k]? with
  | none => (0, k, false)
  | some c => if hexV c < 0 then (0, k, false) else match l[k + 1]? with
    | none => (0, k + 1, false)
    | some d => if hexV d < 0 then (0, k + 1, false) else ((16 * hexV c + hexV d).toNat, k + 2, true)
abbrev ByteVal (r : Nat × Nat × Bool) : Value := .tuple #[.int .u8 (r.1 : Int), .int .i64 (r.2.1 : Int), .bool r.2.2]
theorem ret_byte {r r' : Nat × Nat × Bool} (h : r = r') : Ending.returned (ByteVal r) = .returned (ByteVal r') := by rw [h]
theorem or_nib : ∀ (a b : Fin 16), bits BinOp.or IntKind.u8 (IntKind.u8.wrap ((a.val : Int) * 16)) (b.val : Int) = ((16 * a.val + b.val : Nat) : Int) := by decide +kernel
theorem or_zero : ∀ (a : Fin 16), bits BinOp.or IntKind.u8 0 (a.val : Int) = (a.val : Int) := by decide +kernel
/-- The number of the first k digits, if they are digits. -/
def hexUp (l : List UInt8) (f : Nat) : Nat → Option Nat
  | 0 => some 0
  | k + 1 => match hexUp l f k, l[f + k]? with
    | some x, some c => if hexV c < 0 then none else some (16 * x + (hexV c).toNat)
    | _, _ => none
theorem hexUp_succ {l : List UInt8} {f k x : Nat} {c : UInt8} {v : Nat} (h : hexUp l f k = some x) (hc : l[f + k]? = some c) (hv : hexV c = (v : Int)) : hexUp l f (k + 1) = some (16 * x + v) := by
  unfold hexUp
  rw [h, hc]
  simp [hv]
theorem hexUp_one {l : List UInt8} {f x : Nat} (h : hexUp l f 1 = some x) : ∃ c, l[f]? = some c ∧ hexV c = (x : Int) ∧ x < 16 := by
  simp only [hexUp, Nat.add_zero] at h
  split at h
  · rename_i y c e1 e2
    cases e1
    split at h
    · cases h
    · rename_i hn
      rcases hexV_cases c with hv | ⟨k, hk, hv⟩
      · rw [hv] at hn; omega
      · rw [hv] at h
        have : x = k := by simp at h; omega
        subst this
        exact ⟨c, e2, hv, hk⟩
  · cases h
theorem hexUp_lt {l : List UInt8} {f k x : Nat} (hk : k < 2) (h : hexUp l f k = some x) : x < 16 ∧ (k = 0 → x = 0) := by
  match k, hk with
  | 0, _ => simp [hexUp] at h; omega
  | 1, _ => exact ⟨(hexUp_one h).choose_spec.2.2, fun h => by omega⟩
theorem hexB_stop {l : List UInt8} {f k x : Nat} (hk : k < 2) (h : hexUp l f k = some x) (hc : ∀ c, l[f + k]? = some c → hexV c < 0) : hexB l f = (0, f + k, false) := by
  unfold hexB
  match k, hk with
  | 0, _ =>
    cases e : l[f]? with
    | none => rfl
    | some c => simp only; rw [if_pos (hc c e)]; rfl
  | 1, _ =>
    obtain ⟨c, hc1, hv, _⟩ := hexUp_one h
    rw [hc1]
    simp only
    rw [if_neg (by omega)]
    cases e : l[f + 1]? with
    | none => rfl
    | some d => simp only; rw [if_pos (hc d e)]
theorem hexB_all {l : List UInt8} {f x : Nat} (h : hexUp l f 2 = some x) : hexB l f = (x, f + 2, true) := by
  have h' := h
  unfold hexUp at h
  split at h
  · rename_i y d e1 e2
    obtain ⟨c, hc, hv, hy⟩ := hexUp_one e1
    unfold hexB
    rw [hc]
    simp only
    rw [if_neg (by omega), e2]
    simp only
    split at h
    · cases h
    · rename_i hn
      rw [if_neg hn]
      have : 16 * y + (hexV d).toNat = x := by simpa using h
      rw [hv, ← this]
      congr 1
      omega
  · cases h
set_option maxHeartbeats 400000 in
theorem readHex_any (s : ByteArray) (f : Nat) (w : World) (hf : f ≤ s.size) (hs : s.size ≤ 1000000000) :
    Calls Try.prog 57 #[.string s, .int .i64 (f : Int)] w fun e w' => e = .returned (ByteVal (hexB s.data.toList f)) ∧ w = w' := by
  have hw2 : IntKind.i64.wrap ((f : Int) + 2) = (f : Int) + 2 := IntWalk.i64_in _ (by omega)
  go_enter Try.func57, Try.ntmps57
  go_wp2
  go_loopw [4, 5] (fun b i wr => ∃ k x m : Nat, k ≤ 2 ∧ m = f + k ∧ i = .int .i64 (m : Int) ∧ b = .int .u8 (x : Int) ∧ hexUp s.data.toList f k = some x ∧ m ≤ s.size ∧ wr = w) (fun _ i _ => f + 2 - (intOf i).toNat)
  case atStart => exact ⟨0, 0, f, by omega, rfl, rfl, rfl, rfl, hf, rfl⟩
  case round =>
    obtain ⟨k, x, m, hk, hm, rfl, rfl, hu, hfk, rfl⟩ := hrel
    by_cases hlt : k < 2
    · have hltb : (m : Int) < (f : Int) + 2 := by omega
      have hltc : decide ((m : Int) < (f : Int) + 2) = true := decide_eq_true hltb
      by_cases hend : m = s.size
      · have heq : ((m : Int) == (s.size : Int)) = true := by simp; omega
        have HB := Lib.hid (show hexB s.data.toList f = (0, m, false) by rw [hm]; exact hexB_stop hlt hu (fun c hc => by rw [List.getElem?_eq_none (by rw [length_data]; omega)] at hc; cases hc))
        clear hu hm
        go_wp2
        refine bodyPost_ret (results_tmp3 rfl _ _ _) rfl ?_
        exact ⟨by rw [HB.out]; rfl, rfl⟩
      · have heq : ((m : Int) == (s.size : Int)) = false := beq_eq_false_iff_ne.2 (by omega)
        obtain ⟨c, hc⟩ : ∃ c, s.data.toList[m]? = some c := ⟨_, List.getElem?_eq_getElem (by rw [length_data]; omega)⟩
        have hix := fun w => str_ix s m c hc w
        have IX := Lib.hid (fun w => index_any c w)
        rcases hexV_cases c with hv | ⟨v, hv16, hv⟩
        · have HB := Lib.hid (show hexB s.data.toList f = (0, m, false) by rw [hm]; exact hexB_stop hlt hu (fun d hd => by rw [← hm, hc] at hd; cases hd; omega))
          rw [hv] at IX
          clear hu hm hc
          go_wp2_with (go_at_call 58; refine (IX.out _).mono ?_; rintro e w2 ⟨rfl, rfl⟩)
          refine bodyPost_ret (results_tmp3 rfl _ _ _) rfl ?_
          exact ⟨by rw [HB.out]; rfl, rfl⟩
        · have hu2 := Lib.hid (hexUp_succ hu (by rw [← hm]; exact hc) hv)
          rw [hv] at IX
          obtain ⟨hx16, hx0⟩ := hexUp_lt hlt hu
          have hor := or_nib ⟨x, hx16⟩ ⟨v, hv16⟩
          simp only at hor
          obtain ⟨y, hy⟩ : ∃ y, y = IntKind.u8.wrap ((x : Int) * 16) := ⟨_, rfl⟩
          rw [← hy] at hor
          have hy' := hy.symm
          have hu8 : IntKind.u8.wrap (v : Int) = v := by rw [IntKind.wrap_u8]; omega
          have hw1 : IntKind.i64.wrap ((m : Int) + 1) = (m : Int) + 1 := IntWalk.i64_in _ (by omega)
          have HM := Lib.hid hm
          clear hu hc hm hv hy hx0
          go_wp2_with (go_at_call 58; refine (IX.out _).mono ?_; rintro e w2 ⟨rfl, rfl⟩)
          go_roundw
          case rel => exact ⟨k + 1, 16 * x + v, m + 1, by omega, by rw [HM.out]; omega, by go_num, by push_cast; rfl, hu2.out, by omega, by first | rfl | trivial⟩
          case measure => simp [intOf]; omega
    · obtain rfl : k = 2 := by omega
      have hltb : ¬ (m : Int) < (f : Int) + 2 := by omega
      have hltc : decide ((m : Int) < (f : Int) + 2) = false := decide_eq_false hltb
      have HB := Lib.hid (show hexB s.data.toList f = (x, m, true) by rw [hm]; exact hexB_all hu)
      clear hu hm
      go_wp2
      refine bodyPost_ret (results_tmp3 rfl _ _ _) rfl ?_
      exact ⟨by rw [HB.out]; rfl, rfl⟩
end Go.Proofs.Ytedbhjladpfafaa
