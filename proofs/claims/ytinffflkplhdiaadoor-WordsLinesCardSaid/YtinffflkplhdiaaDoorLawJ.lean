/- Layer 1: the law on Join, walked. -/
import Derived.Test.YtinffflkplhdiaaDoorJc
namespace Go.Proofs.YtinffflkplhdiaaDoor
open Go.RowKit
def FarPost (w : World) (n : Nat) (e : Ending) (w' : World) : Prop := w = w' ∧ ∃ b, e = .returned (.bool b) ∧ (b = false → n ≤ 70)
set_option maxHeartbeats 800000 in
set_option maxRecDepth 100000 in
theorem far_any (v : Value) (xs : List Item) (w : World) (hv : FSl w v xs) : Calls Tryd.prog 25 #[v] w (FarPost w xs.length) := by
  obtain ⟨p, c, rfl, hv⟩ := hv
  obtain ⟨n, hn⟩ : ∃ n, n = xs.length := ⟨_, rfl⟩
  rw [← hn]
  have HV := Lib.hid hv
  have HN := Lib.hid hn
  clear hv hn
  by_cases h70 : 70 < n
  · have hb : decide ((70 : Int) < (n : Int)) = true := decide_eq_true (by omega)
    clear h70
    go_enter Tryd.func25, Tryd.ntmps25
    go_wp2
    go_ret
    exact ⟨rfl, true, rfl, fun h => by cases h⟩
  have hb : decide ((70 : Int) < (n : Int)) = false := decide_eq_false (by omega)
  go_enter Tryd.func25, Tryd.ntmps25
  go_wp2
  go_loop [3, 4] (fun t i => ∃ k m : Nat, k ≤ n ∧ i = .int .i64 k ∧ t = .int .i64 m ∧ m ≤ 2100 * k) (fun _ i => n - (intOf i).toNat)
  case atStart => exact ⟨0, 0, Nat.zero_le _, rfl, rfl, by omega⟩
  case round =>
    obtain ⟨k, m, hk, rfl, rfl, hm⟩ := hrel
    by_cases hlt : k < n
    · obtain ⟨x, hx⟩ : ∃ x, xs[k]? = some x := ⟨_, List.getElem?_eq_getElem (by rw [← HN.out]; exact hlt)⟩
      have hltb : decide ((k : Int) < (n : Int)) = true := decide_eq_true (by omega)
      obtain ⟨b, o, rfl, y0, y1⟩ := HV.out k x hx
      obtain ⟨S, hS⟩ : ∃ S : ByteArray, S = ⟨x.s.toArray⟩ := ⟨_, rfl⟩
      rw [← hS] at y0
      clear hx hS
      by_cases h2 : 2100 < S.size
      · have ht : decide ((2100 : Int) < (S.size : Int)) = true := decide_eq_true (by omega)
        clear h2
        go_wp2
        go_ret
        exact ⟨rfl, true, rfl, fun h => by cases h⟩
      · have ht : decide ((2100 : Int) < (S.size : Int)) = false := decide_eq_false (by omega)
        have H2 := Lib.hid h2
        have hwr : IntKind.i64.wrap ((m : Int) + (S.size : Int)) = (m : Int) + (S.size : Int) := IntWalk.i64_in _ (by omega)
        go_wp2
        go_round
        case rel => exact ⟨k + 1, m + S.size, by omega, by go_num, by go_num, by omega⟩
        case measure => simp [intOf]; omega
    · have hltb : decide ((k : Int) < (n : Int)) = false := decide_eq_false (by omega)
      by_cases h12 : 12000 < m
      · have ht : decide ((12000 : Int) < (m : Int)) = true := decide_eq_true (by omega)
        clear h12
        go_wp2
        go_ret
        exact ⟨rfl, true, rfl, fun h => by cases h⟩
      · have ht : decide ((12000 : Int) < (m : Int)) = false := decide_eq_false (by omega)
        clear h12
        go_wp2
        go_ret
        exact ⟨rfl, false, rfl, fun _ => by omega⟩
set_option maxHeartbeats 800000 in
set_option maxRecDepth 100000 in
theorem joins_any (v : Value) (xs : List Item) (w : World) (hw : LW w) (hv : FSl w v xs) : Calls Tryd.prog 6 #[v] w fun e w' => e = .returned (.bool true) ∧ Below w.heap.size w w' := by
  have SH := Lib.hid (fun w' (h : Below w.heap.size w w') => shown_any w' (hw.below h))
  have hbc := Below.refl w.heap.size w
  have FA := Lib.hid (far_any v xs w hv)
  have J1 := Lib.hid (fun (h : xs.length ≤ 70) => join_any v xs w hw hv (by omega))
  have J2 := Lib.hid (fun w' (hb : Below w.heap.size w w') (h : xs.length ≤ 70) => rjoin_any v xs w' (hv.below hb) (by omega))
  obtain ⟨p, c, rfl, _⟩ := hv
  unfold JPost at J1 J2
  generalize (⟨(joinR xs).toArray⟩ : ByteArray) = R at J1 J2
  generalize joinE xs = E at J1 J2
  clear hw
  go_enter Tryd.func6, Tryd.ntmps6
  go_upto_if 8 with (go_at_call 25; refine FA.out.mono ?_; rintro e w1 ⟨rfl, b, rfl, hb70⟩)
  cases b
  · have h70 := hb70 rfl
    clear hb70
    go_wp2_with (first
      | (go_at_call 26; refine (J1.out h70).mono ?_; rintro e w2 ⟨rfl, hn⟩; have hbc := hn)
      | (go_at_call 27; refine (J2.out _ hbc h70).mono ?_; rintro e w3 ⟨rfl, hn⟩; have hbc := hbc.trans (hn.mono hbc.size))
      | (go_at_call 11; refine (SH.out _ hbc).mono ?_; rintro e w4 ⟨rfl, hn⟩; have hbc := hbc.trans (hn.mono hbc.size)))
    go_ret
    exact ⟨rfl, hbc⟩
  · clear hb70
    go_wp2_with (go_at_call 11; refine (SH.out _ hbc).mono ?_; rintro e w4 ⟨rfl, hn⟩; have hbc := hbc.trans (hn.mono hbc.size))
    go_ret
    exact ⟨rfl, hbc⟩
end Go.Proofs.YtinffflkplhdiaaDoor
