/- Layer 1: the contract of the reference's Digits. -/
import Derived.Test.YtihhgnjkmhdpmaaGreatDoorWD
namespace Go.Proofs.YtihhgnjkmhdpmaaGreatDoor.W
open Go.RowKit
theorem ret_str {a b : ByteArray} (h : a = b) : Ending.returned (.string a) = .returned (.string b) := by rw [h]
theorem one_byte_at (W : World) (b : Nat) (x : Int) (h0 : 0 ≤ x) (h1 : x < 256) (hc : W.cell? ⟨b, 0, none⟩ = some (.int .u8 x)) :
    (convert 49 9 (.slice (some ⟨b, 0, none⟩) 1 1)).run Tryz.prog W = .ok (.string ⟨#[UInt8.ofNat x.toNat]⟩) W := by
  have := run_convert_bytes_back (P := Tryz.prog) W 49 9 5 ⟨b, 0, none⟩ 1 [UInt8.ofNat x.toNat] Tryz.underlying49 Tryz.underlying5 Tryz.underlying9 (by
    intro j hj
    match j, hj with
    | 0, _ =>
      have e : ((UInt8.ofNat x.toNat).toNat : Int) = x := by simp; omega
      simp only [List.getElem_cons_zero, e]
      exact hc)
  exact this
theorem one_byte (w : World) (x : Int) (h0 : 0 ≤ x) (h1 : x < 256) :
    (convert 49 9 (.slice (some ⟨w.heap.size, 0, none⟩) 1 1)).run Tryz.prog (w.alloc (.cells #[.int .u8 x] 5)) = .ok (.string ⟨#[UInt8.ofNat x.toNat]⟩) (w.alloc (.cells #[.int .u8 x] 5)) :=
  one_byte_at _ _ x h0 h1 (by simp [World.cell?_alloc_new])
theorem itoa_small (n : Int) (h0 : 0 ≤ n) (h1 : n ≤ 9) : Lib.itoa n = [UInt8.ofNat (48 + n).toNat] := by
  unfold Lib.itoa
  rw [if_neg (by omega), Lib.decDigits_one (by omega), show (48 + n).toNat = 48 + n.toNat by omega]
set_option maxRecDepth 100000 in
theorem rdigits_small (n : Int) (h0 : 0 ≤ n) (h1 : n ≤ 9) (w : World) :
    Calls Tryz.prog 26 #[.int .i64 n] w fun e w' => e = .returned (.string ⟨(Lib.itoa n).toArray⟩) ∧ Below w.heap.size w w' := by
  have hc := one_byte w (48 + n) (by omega) (by omega)
  have g1 : decide (9 < n) = false := decide_eq_false (by omega)
  have g2 : decide (n < -9) = false := decide_eq_false (by omega)
  have g3 : decide (n < 0) = false := decide_eq_false (by omega)
  go_enter Tryz.func26, Tryz.ntmps26
  go_wp2_with fail
  go_ret
  exact ⟨ret_str (by rw [itoa_small n h0 h1]), (Below.refl _ _).alloc (Nat.le_refl _) _⟩
theorem kept_new {w w1 : World} {v : Value} {t : TypeId} (hb : Below (w.alloc (.cells #[v] t)).heap.size (w.alloc (.cells #[v] t)) w1) : w1.cell? ⟨w.heap.size, 0, none⟩ = some v := by
  rw [hb.cell (p := ⟨w.heap.size, 0, none⟩) (by simp)]; simp [World.cell?_alloc_new]
theorem kept_drew {w w1 : World} {v : Value} {t : TypeId} (hb : Below (w.alloc (.cells #[v] t)).drew.heap.size (w.alloc (.cells #[v] t)).drew w1) : w1.cell? ⟨w.heap.size, 0, none⟩ = some v := by
  rw [hb.cell (p := ⟨w.heap.size, 0, none⟩) (by simp)]; simp [World.cell?_alloc_new]
theorem bl1 {w w1 : World} (hb : Below w.drew.heap.size w.drew w1) (o : Obj) : Below w.heap.size w (w1.alloc o) :=
  (show Below w.heap.size w w1 from ⟨hb.os, hb.tape, hb.output, hb.size, hb.block⟩).alloc hb.size o
theorem bl2 {w w1 : World} {o : Obj} (hb : Below (w.alloc o).heap.size (w.alloc o) w1) : Below w.heap.size w w1 :=
  ((Below.refl _ w).alloc (Nat.le_refl _) o).trans (hb.mono (by simp))
theorem bl3 {w w1 : World} {o : Obj} (hb : Below (w.alloc o).drew.heap.size (w.alloc o).drew w1) : Below w.heap.size w w1 :=
  (((Below.refl _ w).alloc (Nat.le_refl _) o).drew).trans (hb.mono (by simp))
theorem str_app (a b : List UInt8) : (⟨a.toArray⟩ ++ ⟨b.toArray⟩ : ByteArray) = ⟨(a ++ b).toArray⟩ := by
  apply ByteArray.ext; simp
theorem itoa_step (n : Int) (h0 : 9 < n) (_h1 : n ≤ 9223372036854775807) : (⟨(Lib.itoa (n / 10)).toArray⟩ ++ ⟨#[UInt8.ofNat (48 + n % 10).toNat]⟩ : ByteArray) = ⟨(Lib.itoa n).toArray⟩ := by
  rw [show (#[UInt8.ofNat (48 + n % 10).toNat]) = [UInt8.ofNat (48 + n % 10).toNat].toArray from rfl, str_app]
  congr 2
  unfold Lib.itoa
  rw [if_neg (by omega), if_neg (by omega)]
  conv => rhs; rw [Lib.decDigits, dif_neg (by omega)]
  rw [show (n / 10).toNat = n.toNat / 10 by omega, show (48 + n % 10).toNat = 48 + n.toNat % 10 by omega]
theorem itoa_neg1 (n : Int) (h0 : n < 0) : Lib.itoa n = 45 :: Lib.itoa (-n) := by
  unfold Lib.itoa
  rw [if_pos h0, if_neg (by omega), show n.natAbs = (-n).toNat by omega]
theorem quo_rem (n : Int) (h : n < 0) : ∃ q r : Int, n.tdiv 10 = q ∧ n.tmod 10 = -r ∧ n = 10 * q - r ∧ 0 ≤ r ∧ r ≤ 9 := by
  refine ⟨-((-n) / 10), (-n) % 10, ?_, ?_, by omega, by omega, by omega⟩
  · rw [show n = -(-n) by omega, Int.neg_tdiv, Int.tdiv_eq_ediv_of_nonneg (by omega)]; simp
  · rw [show n = -(-n) by omega, Int.neg_tmod, Int.tmod_eq_emod_of_nonneg (by omega)]; simp
theorem itoa_step2 (n q r : Int) (h0 : n < -9) (hn : n = 10 * q - r) (h1 : q < 0) (r0 : 0 ≤ r) (r1 : r ≤ 9) : (⟨(Lib.itoa q).toArray⟩ ++ ⟨#[UInt8.ofNat (48 + r).toNat]⟩ : ByteArray) = ⟨(Lib.itoa n).toArray⟩ := by
  rw [show (#[UInt8.ofNat (48 + r).toNat]) = [UInt8.ofNat (48 + r).toNat].toArray from rfl, str_app]
  congr 2
  unfold Lib.itoa
  rw [if_pos h1, if_pos (by omega)]
  conv => rhs; rw [Lib.decDigits, dif_neg (by omega)]
  rw [show n.natAbs / 10 = q.natAbs by omega, show (48 + r).toNat = 48 + n.natAbs % 10 by omega]
  rfl
def DigIH (n : Int) : Prop := ∀ m : Int, m.natAbs < n.natAbs → ∀ w : World, Calls Tryz.prog 26 #[.int .i64 m] w fun e w' => e = .returned (.string ⟨(Lib.itoa m).toArray⟩) ∧ Below w.heap.size w w'
set_option maxRecDepth 100000 in
theorem rdigits_neg (n : Int) (h0 : n < 0) (h1 : -9 ≤ n) (w : World) :
    Calls Tryz.prog 26 #[.int .i64 n] w fun e w' => e = .returned (.string ⟨(Lib.itoa n).toArray⟩) ∧ Below w.heap.size w w' := by
  have g1 : decide (9 < n) = false := decide_eq_false (by omega)
  have g2 : decide (n < -9) = false := decide_eq_false (by omega)
  have g3 : decide (n < 0) = true := decide_eq_true (by omega)
  have hl : (Lib.itoa (-n)).length ≤ 1 := by rw [itoa_small (-n) (by omega) (by omega)]; simp
  go_enter Tryz.func26, Tryz.ntmps26
  go_wp2_with (go_at_call 26; refine (rdigits_small (-n) (by omega) (by omega) _).mono ?_; rintro e w' ⟨rfl, hb⟩)
  go_ret
  exact ⟨ret_str (by rw [itoa_neg1 n h0]; exact str_app [45] _), hb⟩
set_option maxRecDepth 100000 in
theorem rdigits_big (n : Int) (h0 : 9 < n) (h1 : n ≤ 9223372036854775807) (ih : DigIH n) (w : World) :
    Calls Tryz.prog 26 #[.int .i64 n] w fun e w' => e = .returned (.string ⟨(Lib.itoa n).toArray⟩) ∧ Below w.heap.size w w' := by
  have g1 : decide (9 < n) = true := decide_eq_true (by omega)
  have g2 : decide (n % 10 < 0) = false := decide_eq_false (by omega)
  have hl : (Lib.itoa (n / 10)).length ≤ 21 := Lib.itoa_length_le _ (by omega) (by omega)
  have e1 : IntKind.i64.wrap (48 + n % 10) = 48 + n % 10 := IntWalk.i64_in _ (by omega)
  have e2 : IntKind.u8.wrap (48 + n % 10) = 48 + n % 10 := IntWalk.u8_in _ (by omega)
  have e3 : IntKind.i64.wrap (n.tdiv 10) = n / 10 := IntWalk.i64_quo n 10 (by omega)
  have IH := Lib.hid (ih (n / 10) (by omega))
  have HC := Lib.hid (fun (W : World) (b : Nat) => one_byte_at W b (48 + n % 10) (by omega) (by omega))
  have hn := fun (W : World) => one_byte W (48 + n % 10) (by omega) (by omega)
  have hn2 := fun (W : World) => one_byte_at (W.alloc (.cells #[.int .u8 (48 + n % 10)] 5)).drew W.heap.size (48 + n % 10) (by omega) (by omega) (by simp [World.cell?_alloc_new])
  clear ih
  go_enter Tryz.func26, Tryz.ntmps26
  go_wp2_with fail
  go_region_with (go_at_call 26; refine (IH.out _).mono ?_; rintro e w1 ⟨rfl, hb⟩; (try (first | have hq := HC.out w1 w.heap.size (kept_new hb) | have hq := HC.out w1 w.heap.size (kept_drew hb))))
  all_goals go_wp2_with fail
  all_goals go_ret
  all_goals (refine ⟨ret_str (itoa_step n h0 h1), ?_⟩)
  all_goals (first | exact bl1 hb _ | exact bl2 hb | exact bl3 hb | exact (bl1 hb _).drew | exact (bl2 hb).drew | exact (bl3 hb).drew | skip)

set_option maxHeartbeats 1000000 in
set_option maxRecDepth 100000 in
theorem rdigits_low (n : Int) (h0 : n < -9) (h1 : -9223372036854775808 ≤ n) (ih : DigIH n) (w : World) :
    Calls Tryz.prog 26 #[.int .i64 n] w fun e w' => e = .returned (.string ⟨(Lib.itoa n).toArray⟩) ∧ Below w.heap.size w w' := by
  obtain ⟨q, r, hq, hr, hn0, r0, r1⟩ := quo_rem n (by omega)
  have HN := Lib.hid hn0
  have q0 : -9223372036854775808 ≤ q := by omega
  have q1 : q < 0 := by omega
  have hl : (Lib.itoa q).length ≤ 21 := Lib.itoa_length_le _ (by omega) (by omega)
  have IH := Lib.hid (ih q (by omega))
  have g1 : decide (9 < n) = false := decide_eq_false (by omega)
  have g2 : decide (n < -9) = true := decide_eq_true (by omega)
  have e3 : IntKind.i64.wrap q = q := IntWalk.i64_in _ (by omega)
  have fin := itoa_step2 n q r h0 hn0 q1 r0 r1
  have FIN := Lib.hid fin
  clear ih hn0 fin
  by_cases hz : r = 0
  · subst hz
    have hr : n.tmod 10 = 0 := by rw [hr]; rfl
    have e1 : IntKind.i64.wrap 48 = 48 := IntWalk.i64_in _ (by omega)
    have e2 : IntKind.u8.wrap 48 = 48 := IntWalk.u8_in _ (by omega)
    have HC := Lib.hid (fun (W : World) (b : Nat) => one_byte_at W b 48 (by omega) (by omega))
    have hn := fun (W : World) => one_byte W 48 (by omega) (by omega)
    have hn2 := fun (W : World) => one_byte_at (W.alloc (.cells #[.int .u8 48] 5)).drew W.heap.size 48 (by omega) (by omega) (by simp [World.cell?_alloc_new])
    go_enter Tryz.func26, Tryz.ntmps26
    go_wp2_with fail
    go_region_with (go_at_call 26; refine (IH.out _).mono ?_; rintro e w1 ⟨rfl, hb⟩; (try (first | have hq := HC.out w1 w.heap.size (kept_new hb) | have hq := HC.out w1 w.heap.size (kept_drew hb))))
    all_goals go_wp2_with fail
    all_goals go_ret
    all_goals (refine ⟨ret_str (FIN.out), ?_⟩)
    all_goals (first | exact bl1 hb _ | exact bl2 hb | exact bl3 hb | exact (bl1 hb _).drew | exact (bl2 hb).drew | exact (bl3 hb).drew | skip)
  · have g3 : decide (-r < 0) = true := decide_eq_true (by omega)
    have e1 : IntKind.i64.wrap (48 + r) = 48 + r := IntWalk.i64_in _ (by omega)
    have e2 : IntKind.u8.wrap (48 + r) = 48 + r := IntWalk.u8_in _ (by omega)
    have HC := Lib.hid (fun (W : World) (b : Nat) => one_byte_at W b (48 + r) (by omega) (by omega))
    have hn := fun (W : World) => one_byte W (48 + r) (by omega) (by omega)
    have hn2 := fun (W : World) => one_byte_at (W.alloc (.cells #[.int .u8 (48 + r)] 5)).drew W.heap.size (48 + r) (by omega) (by omega) (by simp [World.cell?_alloc_new])
    go_enter Tryz.func26, Tryz.ntmps26
    go_wp2_with fail
    go_region_with (go_at_call 26; refine (IH.out _).mono ?_; rintro e w1 ⟨rfl, hb⟩; (try (first | have hq := HC.out w1 w.heap.size (kept_new hb) | have hq := HC.out w1 w.heap.size (kept_drew hb))))
    all_goals go_wp2_with fail
    all_goals go_ret
    all_goals (refine ⟨ret_str (FIN.out), ?_⟩)
    all_goals (first | exact bl1 hb _ | exact bl2 hb | exact bl3 hb | exact (bl1 hb _).drew | exact (bl2 hb).drew | exact (bl3 hb).drew | skip)

theorem rdigits_any (n : Int) (h0 : -9223372036854775808 ≤ n) (h1 : n ≤ 9223372036854775807) : ∀ (w : World),
    Calls Tryz.prog 26 #[.int .i64 n] w fun e w' => e = .returned (.string ⟨(Lib.itoa n).toArray⟩) ∧ Below w.heap.size w w' := by
  obtain ⟨k, hk⟩ : ∃ k, n.natAbs = k := ⟨_, rfl⟩
  induction k using Nat.strongRecOn generalizing n with
  | _ k ih =>
    have IH : DigIH n := fun m hm w => ih m.natAbs (by omega) m (by omega) (by omega) rfl w
    intro w
    by_cases a : 9 < n
    · exact rdigits_big n a h1 IH w
    by_cases b : n < -9
    · exact rdigits_low n b h0 IH w
    by_cases c : n < 0
    · exact rdigits_neg n c (by omega) w
    · exact rdigits_small n (by omega) (by omega) w
end Go.Proofs.YtihhgnjkmhdpmaaGreatDoor.W
