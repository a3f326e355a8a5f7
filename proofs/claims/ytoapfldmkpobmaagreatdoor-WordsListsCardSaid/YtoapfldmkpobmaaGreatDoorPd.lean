/- Layer 1: ParseList's successor, walked. -/
import Derived.Test.YtoapfldmkpobmaaGreatDoorPb
namespace Go.Proofs.YtoapfldmkpobmaaGreatDoor
open Go.RowKit
def SucPost (w : World) (s : ByteArray) (e : Ending) (w' : World) : Prop := e = .returned (.string (sucS s)) ∧ Below w.heap.size w w'
set_option maxHeartbeats 400000 in
set_option maxRecDepth 100000 in
theorem successor_any (s : ByteArray) (w : World) (hs : s.size ≤ 4000000000) : Calls Tryz.prog 38 #[.string s] w (SucPost w s) := by
  obtain ⟨c, W0, cv, hc, hb0, hk0⟩ := conv_bytes s w
  obtain ⟨l, hl⟩ : ∃ l, l = s.data.toList := ⟨_, rfl⟩
  obtain ⟨n, hn⟩ : ∃ n, n = s.size := ⟨_, rfl⟩
  have hln : l.length = n := by rw [hl, length_data, hn]
  rw [← hl] at hk0
  rw [← hn] at hk0 hs hc cv
  have HT := Lib.hid (show (sucS s) = ⟨(sucL l).toArray⟩ by rw [hl]; rfl)
  have H0 := Lib.hid (show sucL l = (sucR (l.take n).reverse).reverse ++ List.replicate (n - n) 48 by rw [← hln, List.take_length]; simp [sucL])
  have HLN := Lib.hid hln
  have hnw : IntKind.i64.wrap ((n : Int) - 1) = (n : Int) - 1 := IntWalk.i64_in _ (by omega)
  clear hl hn hln
  go_enter Tryz.func38, Tryz.ntmps38
  go_wp2
  clear cv hnw
  go_loopw [4] (fun i wr => ∃ (k : Nat) (z : Int), k ≤ n ∧ i = .int .i64 z ∧ z = (k : Int) - 1 ∧ Hid (sucL l = (sucR (l.take k).reverse).reverse ++ List.replicate (n - k) 48) ∧ BRw wr w.heap.size n (sucG l k) ∧ Below w.heap.size w wr) (fun i _ => (intOf i + 1).toNat)
  case atStart => exact ⟨n, _, Nat.le_refl _, rfl, rfl, H0, hk0, hb0⟩
  case round =>
    clear hk0 hb0 H0
    obtain ⟨k, z, hk, rfl, hz, hS, hrow, hb⟩ := hrel
    rcases k with _ | k
    · obtain rfl : z = -1 := by omega
      have cv := hrow.back (c := c)
      have HE := Lib.hid (show sucS s = ⟨#[49]⟩ ++ strG n (sucG l 0) by
        have h1 := hS.out
        have h2 := suc_end l
        rw [HLN.out] at h2
        rw [HT.out, h1, strG, h2]
        apply ByteArray.ext
        simp [sucR])
      have hsz := strG_size n (sucG l 0)
      have hcd : ¬ 9223372036854775807 < 1 + n := by omega
      generalize strG n (sucG l 0) = y at *
      clear hrow hS hz
      go_wp2
      go_ret
      exact ⟨by rw [HE.out]; rfl, hb⟩
    · obtain rfl : z = (k : Int) := by omega
      clear hz
      have hkn : k < n := by omega
      have hkl : k < l.length := by rw [HLN.out]; exact hkn
      have z0 : (0 : Int) ≤ (k : Int) := by omega
      have z1 : (k : Int) < (n : Int) := by omega
      have z2 : IntKind.i64.wrap ((k : Int) - 1) = (k : Int) - 1 := IntWalk.i64_in _ (by omega)
      have hc0 : wr.cell? ⟨w.heap.size, k, none⟩ = some (.int .u8 ((l.getD k 0).toNat : Int)) := by rw [hrow.cell hkn]; unfold sucG; rw [if_pos (by omega)]
      have hf0 := hrow.frozen hkn
      have HR := Lib.hid hrow
      by_cases h9 : l.getD k 0 = 57
      · have HST := Lib.hid (suc_step (m := n - (k + 1)) hkl h9)
        rw [h9] at hc0
        have hc1 : wr.cell? ⟨w.heap.size, k, none⟩ = some (.int .u8 57) := hc0
        clear hrow hc0 h9
        go_wp2
        go_roundw
        case rel => exact ⟨k, _, by omega, rfl, rfl, Lib.hid (by
          rw [hS.out, HST.out, show n - (k + 1) + 1 = n - k by omega]), (HR.out.set hkn 48).congr (fun j _ => by
            unfold sucG
            by_cases e : j = k
            · rw [if_pos e, if_neg (by omega)]
            · rw [if_neg e]; by_cases e2 : j < k
              · rw [if_pos e2, if_pos (by omega)]
              · rw [if_neg e2, if_neg (by omega)]), hb.setCell (p := ⟨w.heap.size, k, none⟩) (Nat.le_refl _) _⟩
        case measure => simp [intOf]
      · have HH := Lib.hid (suc_hit (m := n - (k + 1)) hkl (by rw [HLN.out]; omega) h9)
        have hne : (((l.getD k 0).toNat : Int) != 57) = true := by
          rw [bne_iff_ne]; intro e
          have e1 : (l.getD k 0).toNat = 57 := by omega
          exact h9 (UInt8.toNat_inj.mp (by rw [e1]; rfl))
        have hwr : IntKind.u8.wrap (((l.getD k 0).toNat : Int) + 1) = ((l.getD k 0 + 1).toNat : Int) := by
          have h255 := (l.getD k 0).toNat_lt
          have e : (l.getD k 0 + 1).toNat = ((l.getD k 0).toNat + 1) % 256 := by rw [UInt8.toNat_add]; rfl
          rw [e, IntKind.wrap_u8]; omega
        generalize hd : l.getD k 0 + 1 = d at *
        generalize ((l.getD k 0).toNat : Int) = y at *
        have cv := (HR.out.set hkn d).back (c := c)
        have HE := Lib.hid (show strG n (fun j => if j = k then d else sucG l (k + 1) j) = sucS s by
          rw [HT.out, hS.out, ← HH.out, HLN.out]; rfl)
        have HB := Lib.hid (hb.setCell (p := ⟨w.heap.size, k, none⟩) (Nat.le_refl _) (.int .u8 (d.toNat : Int)))
        generalize strG n (fun j => if j = k then d else sucG l (k + 1) j) = r at *
        clear hrow h9 hb
        go_wp2
        go_ret
        exact ⟨by rw [← HE.out]; rfl, HB.out⟩
end Go.Proofs.YtoapfldmkpobmaaGreatDoor
