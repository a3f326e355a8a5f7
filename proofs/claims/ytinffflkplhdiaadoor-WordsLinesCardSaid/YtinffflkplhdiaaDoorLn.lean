/- Layer 1: the reference's Lines. -/
import Derived.Test.YtinffflkplhdiaaDoorBothA
namespace Go.Proofs.YtinffflkplhdiaaDoor
open Go.RowKit
/-- The lines that end below place i, and where the next one begins. -/
def cutS (s : ByteArray) : Nat → List ByteArray × Nat
  | 0 => ([], 0)
  | i + 1 => if s.data.toList.getD i 0 = 10 then ((cutS s i).1 ++ [s.extract (cutS s i).2 i], i + 1) else cutS s i
theorem cutS_le (s : ByteArray) : ∀ i, (cutS s i).2 ≤ i
  | 0 => Nat.le_refl _
  | i + 1 => by unfold cutS; split; exact Nat.le_refl _; exact Nat.le_trans (cutS_le s i) (Nat.le_succ i)
theorem cutS_len (s : ByteArray) : ∀ i, (cutS s i).1.length ≤ i
  | 0 => Nat.le_refl _
  | i + 1 => by
    have := cutS_len s i
    unfold cutS; split
    · simp; omega
    · omega
def linE (s : ByteArray) : Int := if 1048576 < s.size then 3 else if s.size = 0 then 0 else if s.data.toList.getD (s.size - 1) 0 ≠ 10 then 6 else if 5000 < (cutS s s.size).1.length then 3 else 0
def linR (s : ByteArray) : List ByteArray := if linE s = 0 then (cutS s s.size).1 else []
/-- A slice of strings in memory. -/
def SSl (W : World) (v : Value) (xs : List ByteArray) : Prop :=
  ∃ p c, v = .slice p xs.length c ∧ ∀ i x, xs[i]? = some x → ∃ b o, p = some ⟨b, o, none⟩ ∧ W.cell? ⟨b, o + i, none⟩ = some (.string x)
theorem SSl.nil (W : World) : SSl W (.slice none 0 0) [] := ⟨none, 0, rfl, fun i x h => by simp at h⟩
def LnPost (w : World) (s : ByteArray) (e : Ending) (w' : World) : Prop := ∃ v, e = .returned (.tuple #[v, .int .i64 (linE s)]) ∧ SSl w' v (linR s) ∧ Below w.heap.size w w'
theorem SSl.of_own {w : World} {base : Nat} {v : Value} {xs : List ByteArray} (h : w.ownsRow base 9 1 v xs.length (xs.map Value.string)) : SSl w v xs := by
  have hc := fun g (hg : v.ownBlock = some g) => h.cells (g := g) hg
  rcases h.2 with ⟨rfl, h0⟩ | ⟨g, cap, cur, rfl, hb, hgg, hcap, _⟩
  · refine ⟨none, 0, by rw [h0], fun i x hx => ?_⟩
    rw [List.eq_nil_of_length_eq_zero h0] at hx; simp at hx
  · refine ⟨_, cap, rfl, fun i x hx => ⟨g, 0, rfl, ?_⟩⟩
    have h1 := hc g rfl i (.string x) (by rw [List.getElem?_map, hx]; rfl)
    have ad : ∀ j, w.cell? ((⟨g, 0, none⟩ : Addr).add j) = w.cell? ⟨g, 0 + j, none⟩ := fun j => by cases j <;> simp [Addr.add]
    rw [ad] at h1
    exact h1
set_option maxHeartbeats 800000 in
set_option maxRecDepth 100000 in
theorem rlines_any (s : ByteArray) (w : World) (hs : s.size ≤ 100000000000) : Calls Tryd.prog 49 #[.string s] w (LnPost w s) := by
  obtain ⟨i0, hi, hz0, hz1, hz2⟩ := info_parts info_str
  have hb := Below.refl w.heap.size w
  by_cases h1 : 1048576 < s.size
  · have E := Lib.hid (show linE s = 3 by unfold linE; rw [if_pos h1])
    have hb1 : decide ((1048576 : Int) < (s.size : Int)) = true := decide_eq_true (by omega)
    clear h1
    go_enter Tryd.func49, Tryd.ntmps49
    go_wp2
    go_ret2
    exact ⟨_, by rw [E.out]; rfl, by unfold linR; rw [E.out]; exact SSl.nil _, hb⟩
  have hb1 : decide ((1048576 : Int) < (s.size : Int)) = false := decide_eq_false (by omega)
  by_cases h2 : s.size = 0
  · have E := Lib.hid (show linE s = 0 by unfold linE; rw [if_neg h1, if_pos h2])
    have R := Lib.hid (show linR s = [] by unfold linR; rw [E.out, h2]; rfl)
    have he : s.toList.isEmpty = true := by
      rw [toList_data, List.isEmpty_iff]
      exact List.eq_nil_of_length_eq_zero (by rw [length_data, h2])
    clear h1 h2
    go_enter Tryd.func49, Tryd.ntmps49
    go_wp2
    go_ret2
    exact ⟨_, by rw [E.out]; rfl, by rw [R.out]; exact SSl.nil _, hb⟩
  have he : s.toList.isEmpty = false := by
    rw [toList_data, Bool.eq_false_iff]
    intro e; rw [List.isEmpty_iff] at e; apply h2; rw [← length_data, e]; rfl
  have hlt : s.size - 1 < s.size := by omega
  have hix : IntKind.i64.wrap ((s.size : Int) - 1) = ((s.size - 1 : Nat) : Int) := by rw [show (s.size : Int) - 1 = ((s.size - 1 : Nat) : Int) by omega]; exact IntWalk.i64_in _ (by omega)
  have hi0 : (0 : Int) ≤ ((s.size - 1 : Nat) : Int) := by omega
  have hi1 : ((s.size - 1 : Nat) : Int) < (s.size : Int) := by omega
  by_cases h3 : s[s.size - 1] = 10
  · have hb3 : (((s[s.size - 1]).toNat : Int) != 10) = false := by rw [h3]; rfl
    have E := Lib.hid (show linE s = if 5000 < (cutS s s.size).1.length then 3 else 0 by
      unfold linE; rw [if_neg h1, if_neg h2, getD_at s _ hlt, if_neg (by rw [h3]; decide)])
    clear h1 h2 h3
    go_enter Tryd.func49, Tryd.ntmps49
    go_wp2
    go_loopw [4, 5, 6] (fun v f i wr => ∃ k : Nat, k ≤ s.size ∧ i = .int .i64 k ∧ f = .int .i64 ((cutS s k).2 : Nat) ∧ wr.ownsRow w.heap.size 9 1 v (cutS s k).1.length ((cutS s k).1.map Value.string) ∧ Below w.heap.size w wr) (fun _ _ i _ => s.size - (intOf i).toNat)
    case atStart => exact ⟨0, Nat.zero_le _, rfl, rfl, World.ownsRow_nil w _ _ _, hb⟩
    case round =>
      clear hb
      obtain ⟨k, hk, rfl, rfl, hown, hb⟩ := hrel
      have CL := cutS_le s k
      have CN := cutS_len s k
      by_cases hlt : k < s.size
      · have hltb : decide ((k : Int) < (s.size : Int)) = true := decide_eq_true (by omega)
        by_cases hc : s[k] = 10
        · have hcb : ((s[k].toNat : Int) == 10) = true := by rw [hc]; rfl
          have HS := Lib.hid (show cutS s (k + 1) = ((cutS s k).1 ++ [s.extract (cutS s k).2 k], k + 1) by
            rw [cutS, getD_at s k hlt, if_pos hc])
          generalize (cutS s k).1 = done at *
          generalize (cutS s k).2 = f0 at *
          have HO := Lib.hid hown
          have hdn : done.length ≤ 100000000000 := by omega
          clear hown hc
          go_wp2_with (at_builtin; refine wpList_append_own _ rfl _ _ 64 rfl w.heap.size 9 i0 (.string ⟨#[]⟩) 1 16 Tryd.underlying64 hi hz0 hz1 hz2 rfl (by decide) _ done.length _ rfl (HO.out.alloc _) ⟨wr.heap.size, 0, none⟩ 1 1 [.string (s.extract f0 k)] rfl rfl (cell_one_new _ _ _) (by simp [Value.oneCell']) ?c3 ?c4 ?c5 ?_)
          case c3 => simp [maxLen]; omega
          case c4 => omega
          case c5 => simp; have := hb.size; omega
          intro v' w3 hown3 hgr _
          have hbw : Below w.heap.size w w3 := (hb.alloc hb.size _).grown hgr (by simp; have := hb.size; omega) (fun j e => own_ge HO.out e)
          have HO3 := Lib.hid hown3
          clear hown3 hgr hb
          go_wp2
          go_roundw
          case rel =>
            refine ⟨k + 1, by omega, by go_num, by rw [HS.out]; go_num, ?_, hbw⟩
            rw [HS.out]
            show w3.ownsRow w.heap.size 9 1 v' (done ++ [s.extract f0 k]).length ((done ++ [s.extract f0 k]).map Value.string)
            rw [List.length_append, List.map_append]
            exact HO3.out
          case measure => simp [intOf]; omega
        · have hcb : ((s[k].toNat : Int) == 10) = false := by
            rw [beq_eq_false_iff_ne]; intro e; exact hc (u8_eq_of_int _ 10 (by decide) e)
          have HS := Lib.hid (show cutS s (k + 1) = ((cutS s k).1, (cutS s k).2) by
            rw [cutS, getD_at s k hlt, if_neg hc])
          generalize (cutS s k).1 = done at *
          generalize (cutS s k).2 = f0 at *
          have HO := Lib.hid hown
          clear hown hc
          go_wp2
          go_roundw
          case rel => exact ⟨k + 1, by omega, by go_num, by rw [HS.out], by rw [HS.out]; exact HO.out, hb⟩
          case measure => simp [intOf]; omega
      · obtain rfl : k = s.size := by omega
        have hltb : decide ((s.size : Int) < (s.size : Int)) = false := decide_eq_false (by omega)
        have HR := Lib.hid (show linE s = 0 → linR s = (cutS s s.size).1 from fun h => by unfold linR; rw [if_pos h])
        generalize (cutS s s.size).1 = done at *
        have HO := Lib.hid hown
        obtain ⟨p, cp, rfl⟩ : ∃ p c, u4 = .slice p done.length c := by
          rcases hown.2 with ⟨e, h0⟩ | ⟨g, cap, cur, e, _⟩
          · exact ⟨none, 0, by rw [e, h0]⟩
          · exact ⟨_, cap, e⟩
        clear hown
        by_cases h5 : 5000 < done.length
        · have hb5 : decide ((5000 : Int) < (done.length : Int)) = true := decide_eq_true (by omega)
          have E3 := Lib.hid (show linE s = 3 by rw [E.out, if_pos h5])
          clear h5
          go_wp2
          go_ret2
          exact ⟨_, by rw [E3.out]; rfl, by unfold linR; rw [E3.out]; exact SSl.nil _, hb⟩
        · have hb5 : decide ((5000 : Int) < (done.length : Int)) = false := decide_eq_false (by omega)
          have E3 := Lib.hid (show linE s = 0 by rw [E.out, if_neg h5])
          clear h5
          go_wp2
          go_ret2
          exact ⟨_, by rw [E3.out]; rfl, by rw [HR.out E3.out]; exact SSl.of_own HO.out, hb⟩
  · have hb3 : (((s[s.size - 1]).toNat : Int) != 10) = true := by
      rw [bne_iff_ne]; intro e; exact h3 (u8_eq_of_int _ 10 (by decide) e)
    have E := Lib.hid (show linE s = 6 by
      unfold linE; rw [if_neg h1, if_neg h2, getD_at s _ hlt, if_pos h3])
    clear h1 h2 h3
    go_enter Tryd.func49, Tryd.ntmps49
    go_wp2
    go_ret2
    exact ⟨_, by rw [E.out]; rfl, by unfold linR; rw [E.out]; exact SSl.nil _, hb⟩
end Go.Proofs.YtinffflkplhdiaaDoor
