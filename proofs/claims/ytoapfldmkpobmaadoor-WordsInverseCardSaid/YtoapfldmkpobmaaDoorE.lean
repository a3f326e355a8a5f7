/- Layer 1: the contract of the reference's Digits. -/
import Derived.Test.YtoapfldmkpobmaaDoorD
namespace Go.Proofs.YtoapfldmkpobmaaDoor
open Go.RowKit
theorem ret_str {a b : ByteArray} (h : a = b) : Ending.returned (.string a) = .returned (.string b) := by rw [h]
theorem one_byte_at (W : World) (b : Nat) (x : Int) (h0 : 0 ≤ x) (h1 : x < 256) (hc : W.cell? ⟨b, 0, none⟩ = some (.int .u8 x)) :
    (convert 50 9 (.slice (some ⟨b, 0, none⟩) 1 1)).run Tryd.prog W = .ok (.string ⟨#[UInt8.ofNat x.toNat]⟩) W := by
  have := run_convert_bytes_back (P := Tryd.prog) W 50 9 5 ⟨b, 0, none⟩ 1 [UInt8.ofNat x.toNat] Tryd.underlying50 Tryd.underlying5 Tryd.underlying9 (by
    intro j hj
    match j, hj with
    | 0, _ =>
      have e : ((UInt8.ofNat x.toNat).toNat : Int) = x := by simp; omega
      simp only [List.getElem_cons_zero, e]
      exact hc)
  exact this
theorem one_byte (w : World) (x : Int) (h0 : 0 ≤ x) (h1 : x < 256) :
    (convert 50 9 (.slice (some ⟨w.heap.size, 0, none⟩) 1 1)).run Tryd.prog (w.alloc (.cells #[.int .u8 x] 5)) = .ok (.string ⟨#[UInt8.ofNat x.toNat]⟩) (w.alloc (.cells #[.int .u8 x] 5)) :=
  one_byte_at _ _ x h0 h1 (by simp [World.cell?_alloc_new])
theorem itoa_small (n : Int) (h0 : 0 ≤ n) (h1 : n ≤ 9) : Lib.itoa n = [UInt8.ofNat (48 + n).toNat] := by
  unfold Lib.itoa
  rw [if_neg (by omega), Lib.decDigits_one (by omega), show (48 + n).toNat = 48 + n.toNat by omega]
theorem kept_new {w w1 : World} {v : Value} {t : TypeId} (hb : Below (w.alloc (.cells #[v] t)).heap.size (w.alloc (.cells #[v] t)) w1) : w1.cell? ⟨w.heap.size, 0, none⟩ = some v := by
  rw [hb.cell (p := ⟨w.heap.size, 0, none⟩) (by simp)]; simp [World.cell?_alloc_new]
theorem kept_drew {w w1 : World} {v : Value} {t : TypeId} (hb : Below (w.alloc (.cells #[v] t)).drew.heap.size (w.alloc (.cells #[v] t)).drew w1) : w1.cell? ⟨w.heap.size, 0, none⟩ = some v := by
  rw [hb.cell (p := ⟨w.heap.size, 0, none⟩) (by simp)]; simp [World.cell?_alloc_new]
theorem bl1 {w w1 : World} (hb : Below w.drew.heap.size w.drew w1) (o : Obj) : Below w.heap.size w (w1.alloc o) :=
  (show Below w.heap.size w w1 from ⟨hb.os, hb.tape, hb.output, hb.size, hb.block⟩).alloc hb.size o
theorem bl2 {w w1 : World} {o : Obj} (hb : Below (w.alloc o).heap.size (w.alloc o) w1) : Below w.heap.size w w1 :=
  ((Below.refl _ w).alloc (Nat.le_refl _) o).trans (hb.mono (by simp))
theorem bl3 {w w1 : World} {o : Obj} (hb : Below (w.alloc o).drew.heap.size (w.alloc o).drew w1) : Below w.heap.size w w1 :=
  (((Below.refl _ w).alloc (Nat.le_refl _) o).drew).trans (hb.mono (by simp))
theorem str_app (a b : List UInt8) : (⟨a.toArray⟩ ++ ⟨b.toArray⟩ : ByteArray) = ⟨(a ++ b).toArray⟩ := by
  apply ByteArray.ext; simp
theorem itoa_step (n : Int) (h0 : 9 < n) (_h1 : n ≤ 9223372036854775807) : (⟨(Lib.itoa (n / 10)).toArray⟩ ++ ⟨#[UInt8.ofNat (48 + n % 10).toNat]⟩ : ByteArray) = ⟨(Lib.itoa n).toArray⟩ := by
  rw [show (#[UInt8.ofNat (48 + n % 10).toNat]) = [UInt8.ofNat (48 + n % 10).toNat].toArray from rfl, str_app]
  congr 2
  unfold Lib.itoa
  rw [if_neg (by omega), if_neg (by omega)]
  conv => rhs; rw [Lib.decDigits, dif_neg (by omega)]
  rw [show (n / 10).toNat = n.toNat / 10 by omega, show (48 + n % 10).toNat = 48 + n.toNat % 10 by omega]
theorem itoa_neg1 (n : Int) (h0 : n < 0) : Lib.itoa n = 45 :: Lib.itoa (-n) := by
  unfold Lib.itoa
  rw [if_pos h0, if_neg (by omega), show n.natAbs = (-n).toNat by omega]
theorem quo_rem (n : Int) (h : n < 0) : ∃ q r : Int, n.tdiv 10 = q ∧ n.tmod 10 = -r ∧ n = 10 * q - r ∧ 0 ≤ r ∧ r ≤ 9 := by
  refine ⟨-((-n) / 10), (-n) % 10, ?_, ?_, by omega, by omega, by omega⟩
  · rw [show n = -(-n) by omega, Int.neg_tdiv, Int.tdiv_eq_ediv_of_nonneg (by omega)]; simp
  · rw [show n = -(-n) by omega, Int.neg_tmod, Int.tmod_eq_emod_of_nonneg (by omega)]; simp
theorem itoa_step2 (n q r : Int) (h0 : n < -9) (hn : n = 10 * q - r) (h1 : q < 0) (r0 : 0 ≤ r) (r1 : r ≤ 9) : (⟨(Lib.itoa q).toArray⟩ ++ ⟨#[UInt8.ofNat (48 + r).toNat]⟩ : ByteArray) = ⟨(Lib.itoa n).toArray⟩ := by
  rw [show (#[UInt8.ofNat (48 + r).toNat]) = [UInt8.ofNat (48 + r).toNat].toArray from rfl, str_app]
  congr 2
  unfold Lib.itoa
  rw [if_pos h1, if_pos (by omega)]
  conv => rhs; rw [Lib.decDigits, dif_neg (by omega)]
  rw [show n.natAbs / 10 = q.natAbs by omega, show (48 + r).toNat = 48 + n.natAbs % 10 by omega]
  rfl
end Go.Proofs.YtoapfldmkpobmaaDoor
