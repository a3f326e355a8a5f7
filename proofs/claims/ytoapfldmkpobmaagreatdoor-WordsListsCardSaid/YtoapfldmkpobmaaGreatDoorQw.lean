/- Layer 1: ParseList at every string; the law's comparison of lists. -/
import Derived.Test.YtoapfldmkpobmaaGreatDoorQp
import Derived.BigQuiet
namespace Go.Proofs.YtoapfldmkpobmaaGreatDoor
open Go.RowKit
set_option maxRecDepth 100000 in
theorem parse_dash (s : ByteArray) (w : World) (h45 : s.data.toList = [45]) : Calls Tryz.prog 7 #[.string s] w fun e w' => e = .returned (.tuple #[.slice none 0 0, .int .i64 0]) ∧ Below w.heap.size w w' := by
  have hne : (s.toList == [45]) = true := by
    rw [beq_iff_eq, toList_data]; exact h45
  have hb := Below.refl w.heap.size w
  go_enter Tryz.func7, Tryz.ntmps7
  go_wp2
  go_ret2
  exact ⟨rfl, hb⟩
def plS (s : ByteArray) : List Int := if s.data.toList = [45] then [] else (commaP s).flatMap seqL
theorem ISl.of_own {w : World} {B : Nat} {v : Value} {xs : List Int} (h : w.ownsRow B 3 1 v xs.length (xs.map i64v)) : ISl w v xs := by
  by_cases h0 : 1 ≤ xs.length
  · obtain ⟨g, cap, e, _, _, hc⟩ := own_row h h0
    refine ⟨_, cap, e, fun i z hz => ⟨g, 0, rfl, ?_⟩⟩
    exact hc i _ (by rw [List.getElem?_map, hz]; rfl)
  · obtain ⟨p, c, e⟩ := own_shape h
    refine ⟨p, c, e, fun i z hz => ?_⟩
    have := (List.getElem?_eq_some_iff.1 hz).1
    omega
theorem parse_any (s : ByteArray) (w : World) (hw : LW w) (hs : s.size ≤ 1000000000) : Calls Tryz.prog 7 #[.string s] w fun e w' => Below w.heap.size w w' ∧ ∃ v, e = .returned (.tuple #[v, .int .i64 (parseLE s)]) ∧ (parseLE s = 0 → ISl w' v (plS s)) := by
  by_cases h45 : s.data.toList = [45]
  · refine (parse_dash s w h45).mono fun e w' h => ⟨h.2, .slice none 0 0, ?_, fun _ => ?_⟩
    · rw [h.1]
      have : parseLE s = 0 := by unfold parseLE; rw [if_pos h45]
      rw [this]
    · unfold plS; rw [if_pos h45]
      exact ⟨none, 0, rfl, fun i z hz => by simp at hz⟩
  · by_cases hE : parseLE s = 0
    · refine (parse_good s w hw hs h45 hE).mono fun e w' h => ?_
      obtain ⟨hb, v, B, _, he, ho⟩ := h
      refine ⟨hb, v, by rw [he, hE], fun _ => ?_⟩
      unfold plS; rw [if_neg h45]
      exact ISl.of_own ho
    · refine (parse_bad s w hw hs hE).mono fun e w' h => ?_
      exact ⟨h.2, _, h.1, fun h => absurd h hE⟩
theorem plS_list {xs : List Int} (h : listE xs = 0) : parseLE ⟨(listS xs).toArray⟩ = 0 ∧ plS ⟨(listS xs).toArray⟩ = xs := by
  by_cases hne : xs = []
  · subst hne
    have e : listS [] = [45] := by decide +kernel
    rw [e]
    constructor
    · decide +kernel
    · unfold plS; rw [if_pos rfl]
  · obtain ⟨h1, h2, h3⟩ := list_parse h hne
    refine ⟨h1, ?_⟩
    unfold plS
    rw [if_neg (by show ¬ listS xs = [45]; exact h2)]
    exact h3
theorem list_plS {s : ByteArray} (h : parseLE s = 0) : listE (plS s) = 0 ∧ listS (plS s) = s.data.toList := by
  by_cases h45 : s.data.toList = [45]
  · unfold plS
    rw [if_pos h45, h45]
    exact ⟨by decide +kernel, by decide +kernel⟩
  · obtain ⟨h1, h2, _⟩ := parse_list h45 h
    unfold plS
    rw [if_neg h45]
    exact ⟨h1, h2⟩
theorem ch_len : ∀ (ps : List (Int × Int)) (p : Option Int), Ch p ps → ps.length ≤ (ps.flatMap upP).length
  | [], _, _ => Nat.le_refl _
  | q :: r, p, h => by
    have ih := ch_len r _ h.2.2
    rw [List.flatMap_cons, upP_cons h.1.2.1]
    simp only [List.length_cons, List.length_append]
    omega
theorem ch_wr : ∀ (ps : List (Int × Int)) (p : Option Int), Ch p ps → ∀ x ∈ ps.map wrP, x.length ≤ 43
  | [], _, _, x, hx => by simp at hx
  | q :: r, p, h, x, hx => by
    rw [List.map_cons] at hx
    have hq := h.1
    rcases List.mem_cons.1 hx with rfl | hx
    · exact wrS_len q.1 q.2 (by omega) (by omega)
    · exact ch_wr r _ h.2.2 x hx
theorem listS_size (xs : List Int) (h : xs.length ≤ 1000) : (listS xs).length ≤ 1000000 := by
  unfold listS
  by_cases h0 : listE xs = 0
  · rw [if_pos h0]
    by_cases hne : xs = []
    · rw [if_pos hne]; simp
    · rw [if_neg hne]
      obtain ⟨h1, h2, h3⟩ := listE_parts h0
      obtain ⟨ps, hc, hf⟩ := pairs_of xs none h2 h3 (fun l h => by cases h)
      have hl := ch_len ps _ hc
      rw [hf] at hl
      have := join_len (ch_wr ps _ hc)
      rw [List.length_map] at this
      rw [← hf, runs_pairs ps _ hc]
      omega
  · rw [if_neg h0]; simp
set_option maxRecDepth 100000 in
theorem lists_any (a b : Value) (xs : List Int) (w : World) (ha : ISl w a xs) (hb : ISl w b xs) (hl : xs.length ≤ 1000000) :
    Calls Tryz.prog 9 #[a, b] w fun e w' => e = .returned (.bool true) ∧ ∃ d, w' = w.drewN d := by
  obtain ⟨p1, c1, rfl, ha⟩ := ha
  obtain ⟨p2, c2, rfl, hb⟩ := hb
  obtain ⟨n, hn⟩ : ∃ n, n = xs.length := ⟨_, rfl⟩
  have hne2 : ((n : Int) != (n : Int)) = false := by simp
  rw [← hn] at hl ⊢
  have HA := Lib.hid ha
  have HB := Lib.hid hb
  have HN := Lib.hid hn
  clear ha hb hn
  go_enter Tryz.func9, Tryz.ntmps9
  go_wp2
  go_loopw [5] (fun i wr => ∃ k : Nat, k ≤ n ∧ i = .int .i64 k ∧ ∃ d, wr = w.drewN d) (fun i _ => n - (intOf i).toNat)
  case atStart => exact ⟨0, Nat.zero_le _, rfl, 0, rfl⟩
  case round =>
    obtain ⟨k, hk, rfl, d, rfl⟩ := hrel
    by_cases hlt : k < n
    · obtain ⟨x, hx⟩ : ∃ x, xs[k]? = some x := ⟨_, List.getElem?_eq_getElem (by rw [← HN.out]; exact hlt)⟩
      obtain ⟨b1, o1, rfl, x0⟩ := HA.out k x hx
      obtain ⟨b2, o2, rfl, y0⟩ := HB.out k x hx
      have hltb : decide ((k : Int) < (n : Int)) = true := decide_eq_true (by omega)
      have hxx : (x != x) = false := by simp
      clear hx
      go_wp2
      go_quiet (fail)
      go_wp2
      go_roundw
      case rel => first | exact ⟨k + 1, by omega, by go_num, _, rfl⟩ | exact ⟨k + 1, by omega, by go_num, _, drewN_drewN _ _ _⟩
      case measure => simp [intOf]; omega
    · have hltb : decide ((k : Int) < (n : Int)) = false := decide_eq_false (by omega)
      go_wp2
      go_ret
      exact ⟨rfl, d, rfl⟩
end Go.Proofs.YtoapfldmkpobmaaGreatDoor
