/- Layer 1: the law on Split, walked. -/
import Derived.Test.YtodhbcpjlmeijaaDoorSA
namespace Go.Proofs.YtodhbcpjlmeijaaDoor
open Go.RowKit
def spX (l : List UInt8) : List Item := if spE l = 0 then fAll l else []
theorem sp_fsl {w w' : World} {l : List UInt8} {e : Ending} (h : SpPost w l e w') : Below w.heap.size w w' ∧ ∃ v, e = .returned (.tuple #[v, .int .i64 (spE l)]) ∧ FSl w' v (spX l) := by
  obtain ⟨hb, v, he, h0, h1⟩ := h
  refine ⟨hb, v, he, ?_⟩
  unfold spX
  by_cases hz : spE l = 0
  · rw [if_pos hz]; exact FSl.of_own (h0 hz).1
  · rw [if_neg hz, h1 hz]; exact ⟨none, 0, rfl, fun i x hx => by simp at hx⟩
theorem spX_len (l : List UInt8) : (spX l).length ≤ l.length + 1 := by
  unfold spX; split
  · exact fAll_len l
  · simp
theorem same_self (xs : List Item) : sameL xs xs = true := by unfold sameL; simp
set_option maxRecDepth 100000 in
theorem splits_any (s : ByteArray) (w : World) (hw : LW w) : Calls Tryd.prog 5 #[.string s] w fun e w' => e = .returned (.bool true) ∧ Below w.heap.size w w' := by
  have SH := Lib.hid (fun w' (h : Below w.heap.size w w') => shown_any w' (hw.below h))
  have hbc := Below.refl w.heap.size w
  by_cases h3 : 9000 < s.size
  · have a1 : decide ((3000 : Int) < (s.size : Int)) = true := decide_eq_true (by omega)
    have a2 : decide ((s.size : Int) ≤ 8192) = false := decide_eq_false (by omega)
    have a3 : decide ((9000 : Int) < (s.size : Int)) = true := decide_eq_true (by omega)
    clear h3 hw
    go_enter Tryd.func5, Tryd.ntmps5
    go_wp2_with (go_at_call 11; refine (SH.out _ hbc).mono ?_; rintro e w2 ⟨rfl, hn⟩; have hbc := hbc.trans (hn.mono hbc.size))
    go_ret
    exact ⟨rfl, hbc⟩
  have a3 : decide ((9000 : Int) < (s.size : Int)) = false := decide_eq_false (by omega)
  by_cases h12 : 3000 < s.size ∧ s.size ≤ 8192
  · have a1 : decide ((3000 : Int) < (s.size : Int)) = true := decide_eq_true (by omega)
    have a2 : decide ((s.size : Int) ≤ 8192) = true := decide_eq_true (by omega)
    clear h3 h12 hw
    go_enter Tryd.func5, Tryd.ntmps5
    go_wp2_with (go_at_call 11; refine (SH.out _ hbc).mono ?_; rintro e w2 ⟨rfl, hn⟩; have hbc := hbc.trans (hn.mono hbc.size))
    go_ret
    exact ⟨rfl, hbc⟩
  have S1 := Lib.hid ((split_any s w hw (by omega)).mono fun _ _ h => sp_fsl h)
  have S2 := Lib.hid (fun w' => (rsplit_any s w' (by omega)).mono fun _ _ h => sp_fsl h)
  have hln := spX_len s.data.toList
  rw [length_data] at hln
  have SM := Lib.hid (fun a b w' (ha : FSl w' a (spX s.data.toList)) (hb : FSl w' b (spX s.data.toList)) => same_any a b _ _ w' ha hb (by omega))
  rw [same_self] at SM
  generalize spX s.data.toList = X at S1 S2 SM hln
  generalize spE s.data.toList = E at S1 S2
  by_cases h1 : 3000 < s.size
  · have a1 : decide ((3000 : Int) < (s.size : Int)) = true := decide_eq_true (by omega)
    have a2 : decide ((s.size : Int) ≤ 8192) = false := decide_eq_false (by omega)
    clear h1 h12 h3 hw hln
    go_enter Tryd.func5, Tryd.ntmps5
    go_wp2_with (first
      | (go_at_call 22; refine S1.out.mono ?_; rintro e w1 ⟨hb1, v1, rfl, hf1⟩; have hF1 := Lib.hid hf1; clear hf1; have hbc := hb1)
      | (go_at_call 23; refine (S2.out _).mono ?_; rintro e w2 ⟨hb2, v2, rfl, hf2⟩; have hF2 := Lib.hid hf2; clear hf2; have hG1 := Lib.hid (hF1.out.below hb2); have hbc := hbc.trans (hb2.mono hbc.size))
      | (go_at_call 24; refine (SM.out _ _ _ hG1.out hF2.out).mono ?_; rintro e w3 ⟨rfl, d, rfl⟩; have hbc := below_drewN hbc d)
      | (go_at_call 11; refine (SH.out _ hbc).mono ?_; rintro e w4 ⟨rfl, hn⟩; have hbc := hbc.trans (hn.mono hbc.size)))
    go_ret
    exact ⟨rfl, hbc⟩
  · have a1 : decide ((3000 : Int) < (s.size : Int)) = false := decide_eq_false (by omega)
    clear h1 h12 h3 hw hln
    go_enter Tryd.func5, Tryd.ntmps5
    go_wp2_with (first
      | (go_at_call 22; refine S1.out.mono ?_; rintro e w1 ⟨hb1, v1, rfl, hf1⟩; have hF1 := Lib.hid hf1; clear hf1; have hbc := hb1)
      | (go_at_call 23; refine (S2.out _).mono ?_; rintro e w2 ⟨hb2, v2, rfl, hf2⟩; have hF2 := Lib.hid hf2; clear hf2; have hG1 := Lib.hid (hF1.out.below hb2); have hbc := hbc.trans (hb2.mono hbc.size))
      | (go_at_call 24; refine (SM.out _ _ _ hG1.out hF2.out).mono ?_; rintro e w3 ⟨rfl, d, rfl⟩; have hbc := below_drewN hbc d)
      | (go_at_call 11; refine (SH.out _ hbc).mono ?_; rintro e w4 ⟨rfl, hn⟩; have hbc := hbc.trans (hn.mono hbc.size)))
    go_ret
    exact ⟨rfl, hbc⟩
end Go.Proofs.YtodhbcpjlmeijaaDoor
