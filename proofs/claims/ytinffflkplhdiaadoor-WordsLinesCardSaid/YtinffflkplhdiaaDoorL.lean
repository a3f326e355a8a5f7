/- Layer 1: the reference's escaped and Quote. -/
import Derived.Test.YtinffflkplhdiaaDoorK
import Derived.Test.YtinffflkplhdiaaDoorE
import Derived.Lib.AppendStr
namespace Go.Proofs.YtinffflkplhdiaaDoor
open Go.RowKit
theorem rplain_any (c : UInt8) (w : World) :
    Calls Tryd.prog 61 #[.int .u8 c.toNat] w fun e w' => e = .returned (.bool (plainB c)) ∧ w = w' := by
  go_enter Tryd.func61, Tryd.ntmps61
  go_wp2
  all_goals (go_ret; exact ⟨ret_bool (by unfold plainB; rw [Bool.eq_iff_iff]; simp; try omega), rfl⟩)
theorem rhex_any (x : Int) (k : Nat) (hk : k < 16) (e : x = k) (w : World) :
    Calls Tryd.prog 62 #[.int .u8 x] w fun e w' => e = .returned (.int .u8 (hexAt k).toNat) ∧ w = w' := by
  have hx := fun w => hexIx x k hk e w
  clear e
  go_enter Tryd.func62, Tryd.ntmps62
  go_wp2
  go_ret
  exact ⟨rfl, rfl⟩
theorem two_bytes (w : World) (l : List UInt8) : (convert 38 9 (.slice (some ⟨w.heap.size, 0, none⟩) l.length l.length)).run Tryd.prog (w.alloc (.cells (l.map u8v).toArray 5)) =
    .ok (.string ⟨l.toArray⟩) (w.alloc (.cells (l.map u8v).toArray 5)) :=
  run_convert_bytes_back (P := Tryd.prog) _ 38 9 5 ⟨w.heap.size, 0, none⟩ l.length l Tryd.underlying38 Tryd.underlying5 Tryd.underlying9 (fun j hj => new_cells w l j _ (by simp [hj]; rfl))
def EscPost (w : World) (c : UInt8) (e : Ending) (w' : World) : Prop := e = .returned (.string ⟨(escL c).toArray⟩) ∧ Below w.heap.size w w'
theorem escPost {w w' : World} {c : UInt8} {l : List UInt8} (h : escL c = l) (hb : Below w.heap.size w w') : EscPost w c (.returned (.string ⟨l.toArray⟩)) w' := ⟨by rw [h], hb⟩
set_option maxRecDepth 100000 in
theorem resc_plain (c : UInt8) (w : World) (hp : plainB c = true) : Calls Tryd.prog 43 #[.int .u8 c.toNat] w (EscPost w c) := by
  have hl : escL c = [c] := by unfold escL; rw [if_pos hp]
  have HL := Lib.hid hl
  have hc : (convert 38 9 (.slice (some ⟨w.heap.size, 0, none⟩) 1 1)).run Tryd.prog (w.alloc (.cells #[.int .u8 c.toNat] 5)) = .ok (.string ⟨#[c]⟩) (w.alloc (.cells #[.int .u8 c.toNat] 5)) := two_bytes w [c]
  clear hl
  go_enter Tryd.func43, Tryd.ntmps43
  go_wp2_with (go_at_call 61; refine (rplain_any _ _).mono ?_; rintro e w' ⟨rfl, rfl⟩)
  go_ret
  exact escPost HL.out ((Below.refl _ _).alloc (Nat.le_refl _) _)
set_option maxRecDepth 100000 in
set_option maxHeartbeats 800000 in
theorem resc_any (c : UInt8) (w : World) : Calls Tryd.prog 43 #[.int .u8 c.toNat] w (EscPost w c) := by
  by_cases hp : plainB c = true
  · exact resc_plain c w hp
  have hp : plainB c = false := by simpa using hp
  by_cases hc : c = 34
  · skip
    have h1 : ((c.toNat : Int) == 34) = true := by subst hc; decide
    have h2 : ((c.toNat : Int) == 92) = false := by subst hc; decide
    have h3 : ((c.toNat : Int) == 10) = false := by subst hc; decide
    have h4 : ((c.toNat : Int) == 13) = false := by subst hc; decide
    have h5 : ((c.toNat : Int) == 9) = false := by subst hc; decide
    have hl := congrArg escL hc
    have HL := Lib.hid hl
    clear hl hc
    go_enter Tryd.func43, Tryd.ntmps43
    go_wp2_with (go_at_call 61; refine (rplain_any _ _).mono ?_; rintro e w' ⟨rfl, rfl⟩)
    go_ret
    exact escPost (HL.out.trans (by decide)) (Below.refl _ _)
  have g1 : ((c.toNat : Int) == 34) = false := by rw [beq_eq_false_iff_ne]; intro e; exact hc (u8_eq_of_int _ 34 (by decide) e)
  have n1 := hc
  clear hc
  by_cases hc : c = 92
  · skip
    have h1 : ((c.toNat : Int) == 34) = false := by subst hc; decide
    have h2 : ((c.toNat : Int) == 92) = true := by subst hc; decide
    have h3 : ((c.toNat : Int) == 10) = false := by subst hc; decide
    have h4 : ((c.toNat : Int) == 13) = false := by subst hc; decide
    have h5 : ((c.toNat : Int) == 9) = false := by subst hc; decide
    have hl := congrArg escL hc
    have HL := Lib.hid hl
    clear hl hc
    go_enter Tryd.func43, Tryd.ntmps43
    go_wp2_with (go_at_call 61; refine (rplain_any _ _).mono ?_; rintro e w' ⟨rfl, rfl⟩)
    go_ret
    exact escPost (HL.out.trans (by decide)) (Below.refl _ _)
  have g2 : ((c.toNat : Int) == 92) = false := by rw [beq_eq_false_iff_ne]; intro e; exact hc (u8_eq_of_int _ 92 (by decide) e)
  have n2 := hc
  clear hc
  by_cases hc : c = 10
  · skip
    have h1 : ((c.toNat : Int) == 34) = false := by subst hc; decide
    have h2 : ((c.toNat : Int) == 92) = false := by subst hc; decide
    have h3 : ((c.toNat : Int) == 10) = true := by subst hc; decide
    have h4 : ((c.toNat : Int) == 13) = false := by subst hc; decide
    have h5 : ((c.toNat : Int) == 9) = false := by subst hc; decide
    have hl := congrArg escL hc
    have HL := Lib.hid hl
    clear hl hc
    go_enter Tryd.func43, Tryd.ntmps43
    go_wp2_with (go_at_call 61; refine (rplain_any _ _).mono ?_; rintro e w' ⟨rfl, rfl⟩)
    go_ret
    exact escPost (HL.out.trans (by decide)) (Below.refl _ _)
  have g3 : ((c.toNat : Int) == 10) = false := by rw [beq_eq_false_iff_ne]; intro e; exact hc (u8_eq_of_int _ 10 (by decide) e)
  have n3 := hc
  clear hc
  by_cases hc : c = 13
  · skip
    have h1 : ((c.toNat : Int) == 34) = false := by subst hc; decide
    have h2 : ((c.toNat : Int) == 92) = false := by subst hc; decide
    have h3 : ((c.toNat : Int) == 10) = false := by subst hc; decide
    have h4 : ((c.toNat : Int) == 13) = true := by subst hc; decide
    have h5 : ((c.toNat : Int) == 9) = false := by subst hc; decide
    have hl := congrArg escL hc
    have HL := Lib.hid hl
    clear hl hc
    go_enter Tryd.func43, Tryd.ntmps43
    go_wp2_with (go_at_call 61; refine (rplain_any _ _).mono ?_; rintro e w' ⟨rfl, rfl⟩)
    go_ret
    exact escPost (HL.out.trans (by decide)) (Below.refl _ _)
  have g4 : ((c.toNat : Int) == 13) = false := by rw [beq_eq_false_iff_ne]; intro e; exact hc (u8_eq_of_int _ 13 (by decide) e)
  have n4 := hc
  clear hc
  by_cases hc : c = 9
  · skip
    have h1 : ((c.toNat : Int) == 34) = false := by subst hc; decide
    have h2 : ((c.toNat : Int) == 92) = false := by subst hc; decide
    have h3 : ((c.toNat : Int) == 10) = false := by subst hc; decide
    have h4 : ((c.toNat : Int) == 13) = false := by subst hc; decide
    have h5 : ((c.toNat : Int) == 9) = true := by subst hc; decide
    have hl := congrArg escL hc
    have HL := Lib.hid hl
    clear hl hc
    go_enter Tryd.func43, Tryd.ntmps43
    go_wp2_with (go_at_call 61; refine (rplain_any _ _).mono ?_; rintro e w' ⟨rfl, rfl⟩)
    go_ret
    exact escPost (HL.out.trans (by decide)) (Below.refl _ _)
  have g5 : ((c.toNat : Int) == 9) = false := by rw [beq_eq_false_iff_ne]; intro e; exact hc (u8_eq_of_int _ 9 (by decide) e)
  have hl : escL c = [92, 120, hexAt (c.toNat / 16), hexAt (c.toNat % 16)] := by
    unfold escL; rw [if_neg (by simp [hp]), if_neg n1, if_neg n2, if_neg n3, if_neg n4, if_neg hc]
  have HL := Lib.hid hl
  have hlt := c.toNat_lt
  have q1 := Lib.hid (rhex_any ((c.toNat : Int) / 16) (c.toNat / 16) (by omega) (by omega))
  have q2 := Lib.hid (rhex_any ((c.toNat : Int) % 16) (c.toNat % 16) (by omega) (by omega))
  have hlt2 : (c.toNat : Int) < 256 := by omega
  obtain ⟨x, hx⟩ : ∃ x, x = hexAt (c.toNat / 16) := ⟨_, rfl⟩
  obtain ⟨y, hy⟩ : ∃ y, y = hexAt (c.toNat % 16) := ⟨_, rfl⟩
  rw [← hx] at q1 HL
  rw [← hy] at q2 HL
  have hcv : (convert 38 9 (.slice (some ⟨w.heap.size, 0, none⟩) 2 2)).run Tryd.prog (w.alloc (.cells #[.int .u8 x.toNat, .int .u8 y.toNat] 5)) = .ok (.string ⟨#[x, y]⟩) (w.alloc (.cells #[.int .u8 x.toNat, .int .u8 y.toNat] 5)) := two_bytes w [x, y]
  clear n1 n2 n3 n4 hc hl hlt hx hy
  go_enter Tryd.func43, Tryd.ntmps43
  go_wp2_with (go_at_call 61; refine (rplain_any _ _).mono ?_; rintro e w' ⟨rfl, rfl⟩)
  refine (q1.out _).mono ?_
  rintro e w' ⟨rfl, rfl⟩
  go_wp2_with fail
  refine (q2.out _).mono ?_
  rintro e w' ⟨rfl, rfl⟩
  go_wp2_with fail
  go_ret
  exact escPost HL.out ((Below.refl _ _).alloc (Nat.le_refl _) _)
set_option maxRecDepth 100000 in
set_option maxHeartbeats 800000 in
theorem rquote_any (s : ByteArray) (w : World) (hs : s.size ≤ 100000000000) :
    Calls Tryd.prog 21 #[.string s] w fun e w' => e = .returned (.string ⟨(quoteL s.data.toList).toArray⟩) ∧ Below w.heap.size w w' := by
  obtain ⟨i0, hi, hz0, hz1, hz2⟩ := info_parts info_u8
  have hown0 : (w.alloc (.cells #[.int .u8 34] 5)).ownsRow w.heap.size 5 1 (.slice (some ⟨w.heap.size, 0, none⟩) 1 1) 1 ([34].map u8v) := World.ownsRow_lit w _ 1 (Nat.le_refl _) (by simp [maxLen]) (by simp)
  go_enter Tryd.func21, Tryd.ntmps21
  go_wp2_with fail
  go_loopw [3, 4] (fun v i wr => ∃ k : Nat, k ≤ s.size ∧ i = .int .i64 k ∧ wr.ownsRow w.heap.size 5 1 v (1 + (escAll (s.data.toList.take k)).length) ((34 :: escAll (s.data.toList.take k)).map u8v) ∧ Below w.heap.size w wr) (fun _ i _ => s.size - (intOf i).toNat)
  case atStart => exact ⟨0, by omega, rfl, hown0, (Below.refl _ _).alloc (Nat.le_refl _) _⟩
  case round =>
    obtain ⟨k, hk, rfl, hown2, hbel⟩ := hrel
    clear hown0
    have hle := escAll_le (s.data.toList.take k)
    have hlk : (s.data.toList.take k).length ≤ k := List.length_take_le _ _
    by_cases hlt : k < s.size
    · have hc := Lib.hid (resc_any s[k])
      have hsn := Lib.hid (escAll_snoc s k hlt)
      have he4 := escL_le s[k]
      have HO := Lib.hid hown2
      have hsz := hbel.size
      clear hown2
      go_wp2_with (first
        | (go_at_call 43; refine (hc.out _).mono ?_; rintro e w2 ⟨rfl, hb2⟩; have hown3 := own_below HO.out hb2)
        | (refine Lib.wpList_append_own_string _ rfl _ _ 38 9 rfl w.heap.size 5 i0 Tryd.underlying38 Tryd.underlying9 hi hz0 hz1 hz2 _ _ _ rfl hown3 _ rfl ?c1 ?c2 ?c3 ?_)
        )
      case c1 => rw [size_mk]; simp [maxLen]; omega
      case c2 => rw [size_mk]; omega
      case c3 => have := hb2.size; omega
      intro v3 w3 hown4 hgrow _
      have hown5 : w3.ownsRow w.heap.size 5 1 v3 (1 + (escAll (s.data.toList.take (k + 1))).length) ((34 :: escAll (s.data.toList.take (k + 1))).map u8v) := by
        rw [hsn.out]
        exact cast_own (xs := 34 :: escAll (s.data.toList.take k) ++ escL s[k]) (by rw [List.map_append]; exact hown4) (by simp; omega) (by simp)
      have hb4 : Below w.heap.size w w3 := (hbel.trans (hb2.mono hbel.size)).grown hgrow (by have := hb2.size; omega) (fun j hj => (World.ownsRow.lt hown3 j hj).1)
      clear hown3 hown4 hgrow
      go_wp2_with fail
      go_roundw
      case rel => exact ⟨k + 1, by omega, by go_num, hown5, hb4⟩
      case measure => simp [intOf]; omega
    · obtain rfl : k = s.size := by omega
      rw [take_size] at hown2 hle
      rw [length_data] at hle
      go_wp2_with (first
        | (at_builtin; refine wpList_append_own _ rfl _ _ 38 rfl _ 5 i0 (.int .u8 0) 1 1 Tryd.underlying38 hi hz0 hz1 hz2 rfl (by decide) _ _ _ rfl (hown2.alloc _) ⟨wr.heap.size, 0, none⟩ ([34]).length ([34]).length (([34]).map u8v) rfl rfl (new_cells_at _ wr.heap.size (by simp) [34]) (u8v_one _) ?c3 ?c4 ?c5 ?_)
        )
      case c3 => simp [maxLen]; omega
      case c4 => simp; omega
      case c5 => simp; have := hbel.size; omega
      intro v2 w2 hown3 hgrow3 _
      have hq : w2.ownsRow w.heap.size 5 1 v2 (1 + (escAll s.data.toList).length + 1) ((quoteL s.data.toList).map u8v) := own_map hown3 rfl rfl
      have hcv := conv_own hq
      have hb4 : Below w.heap.size w w2 := AppPost.below hown2 hbel hgrow3
      clear hown3 hgrow3 hq
      go_wp2
      go_ret
      exact ⟨rfl, hb4⟩
end Go.Proofs.YtinffflkplhdiaaDoor
