/- Layer 1: the law on lines, walked. -/
import Derived.Test.YtinffflkplhdiaaDoorLw
namespace Go.Proofs.YtinffflkplhdiaaDoor
open Go.RowKit
theorem SSl.below {w W : World} {v : Value} {xs : List ByteArray} (h : SSl w v xs) (hb : Below w.heap.size w W) : SSl W v xs := by
  obtain ⟨p, c, rfl, hv⟩ := h
  refine ⟨p, c, rfl, fun i x hx => ?_⟩
  obtain ⟨b, o, hp, hc⟩ := hv i x hx
  exact ⟨b, o, hp, (hb.cell (cell_in hc)).trans hc⟩
theorem below_drew0 (w : World) (d : Nat) : Below w.heap.size w (w.drewN d) := ⟨rfl, rfl, rfl, Nat.le_refl _, fun _ _ => rfl⟩
set_option maxHeartbeats 800000 in
set_option maxRecDepth 100000 in
theorem lineslaw_any (s : ByteArray) (w : World) (hw : LW w) (hs : s.size ≤ 4000000000) : Calls Tryd.prog 28 #[.string s] w fun e w' => e = .returned (.bool true) ∧ Below w.heap.size w w' := by
  have hb := Below.refl w.heap.size w
  have A := Lib.hid (lines_any s w hw hs)
  have B := Lib.hid (fun w' => rlines_any s w' (by omega))
  unfold LnPost at A B
  have hLn : (linR s).length ≤ s.size := by
    unfold linR; split
    · exact cutS_len s _
    · exact Nat.zero_le _
  generalize linR s = L at *
  generalize linE s = E at *
  obtain ⟨n, hn⟩ : ∃ n, L.length = n := ⟨_, rfl⟩
  have HN := Lib.hid hn
  have hnb : n ≤ 4000000000 := by omega
  clear hw hLn
  go_enter Tryd.func28, Tryd.ntmps28
  go_wp2_with (first
    | (go_at_call 48; refine A.out.mono ?_; rintro e w1 ⟨v, rfl, sv, hb2⟩; replace hb := hb.trans (hb2.mono hb.size); clear hb2)
    | (go_at_call 49; refine (B.out _).mono ?_; rintro e w2 ⟨u, rfl, su, hb2⟩; replace hb := hb.trans (hb2.mono hb.size); (try replace sv := sv.below hb2); clear hb2; obtain ⟨p, c, rfl, hv⟩ := sv; obtain ⟨p2, c2, rfl, hu⟩ := su; rw [hn]; have HV := Lib.hid hv; have HU := Lib.hid hu; clear hv hu hn))
  go_loopw [7] (fun i wr => ∃ k : Nat, k ≤ n ∧ i = .int .i64 k ∧ Below w2.heap.size w2 wr) (fun i _ => n - (intOf i).toNat)
  case atStart => exact ⟨0, Nat.zero_le _, rfl, Below.refl _ _⟩
  case round =>
    obtain ⟨k, hk, rfl, hbr⟩ := hrel
    by_cases hlt : k < n
    · have hltb : decide ((k : Int) < (n : Int)) = true := decide_eq_true (by omega)
      obtain ⟨x, hx⟩ : ∃ x, L[k]? = some x := ⟨_, List.getElem?_eq_getElem (by rw [HN.out]; exact hlt)⟩
      obtain ⟨b, o, rfl, c1⟩ := HV.out k x hx
      obtain ⟨b', o', rfl, c2'⟩ := HU.out k x hx
      have cx := (hbr.cell (cell_in c1)).trans c1
      have cy := (hbr.cell (cell_in c2')).trans c2'
      have q0 : (0 : Int) ≤ (k : Int) := by omega
      have q1 : (k : Int) < (n : Int) := by omega
      have HBR := Lib.hid hbr
      clear hx c1 c2' hbr
      go_wp2
      go_quiet (fail)
      go_wp2
      go_roundw
      case rel => exact ⟨k + 1, by omega, by go_num, HBR.out.trans ((below_drew0 _ _).mono HBR.out.size)⟩
      case measure => simp [intOf]; omega
    · have hltb : decide ((k : Int) < (n : Int)) = false := decide_eq_false (by omega)
      go_wp2
      go_ret
      exact ⟨rfl, hb.trans (hbr.mono hb.size)⟩
end Go.Proofs.YtinffflkplhdiaaDoor
