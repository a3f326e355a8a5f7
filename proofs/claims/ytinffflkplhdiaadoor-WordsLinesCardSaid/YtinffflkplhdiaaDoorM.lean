/- Layer 1: the reference's quoted and Unquote. -/
import Derived.Test.YtinffflkplhdiaaDoorL
import Derived.Deep.CutRange
namespace Go.Proofs.YtinffflkplhdiaaDoor
open Go.RowKit
theorem resc_nat (j : Nat) (hj : j < 256) (w : World) : Calls Tryd.prog 43 #[.int .u8 (j : Int)] w (EscPost w (UInt8.ofNat j)) := by
  have := resc_any (UInt8.ofNat j) w
  rw [show ((UInt8.ofNat j).toNat : Int) = (j : Int) by simp; omega] at this
  exact this
set_option maxRecDepth 100000 in
set_option maxHeartbeats 800000 in
theorem rq_bad (s : ByteArray) (w : World) (_hs : s.size ≤ 100000000000) (h : s.size = 0 ∨ ∃ h : 0 < s.size, s[0] ≠ 34) : Calls Tryd.prog 41 #[.string s] w (QPost w s.data.toList) := by
  rcases h with h | ⟨h, h0⟩
  · have hq : qL s.data.toList = none := by rw [eq_nil_zero s h]; rfl
    have HQ := Lib.hid hq
    have f1 : ((s.size : Int) == 0) = true := beq_iff_eq.2 (by omega)
    clear hq h
    go_enter Tryd.func41, Tryd.ntmps41
    go_wp2
    all_goals (go_ret2; exact qPost_none HQ.out (Below.refl _ _))
  · have HQ := Lib.hid (qL_not s h h0)
    have f2 : ((s.size : Int) == 0) = false := beq_eq_false_iff_ne.2 (by omega)
    have f1 : ((s[0].toNat : Int) != 34) = true := by
      rw [bne_iff_ne]; intro e; exact h0 (u8_eq_of_int _ 34 (by decide) e)
    clear h0
    go_enter Tryd.func41, Tryd.ntmps41
    go_wp2
    go_ret2
    exact qPost_none HQ.out (Below.refl _ _)

theorem ext_pre (s : ByteArray) (a n : Nat) : (s.extract a (a + n)).toList = (s.data.toList.drop a).take n := by
  rw [toList_data, Lib.extract_data, show a + n - a = n by omega]
/-- What the inner loop knows: no form of a byte below j stands here; or the byte b was found. -/
def InRel (l : List UInt8) (acc : List UInt8) (a : Nat) (j : Nat) (found : Bool) (out : List UInt8) (a' : Nat) : Prop :=
  (found = false ∧ out = acc ∧ a' = a ∧ ∀ i, i < j → (escL (UInt8.ofNat i)).isPrefixOf l = false) ∨ (found = true ∧ ∃ b, unescL l = some b ∧ out = acc ++ [b] ∧ a' = a + (escL b).length)
set_option maxRecDepth 100000 in
set_option maxHeartbeats 1600000 in
theorem rq_loop (s : ByteArray) (w : World) (hs : s.size ≤ 100000000000) (h : 0 < s.size) (h0 : s[0] = 34) : Calls Tryd.prog 41 #[.string s] w (QPost w s.data.toList) := by
  obtain ⟨i0, hi, hz0, hz1, hz2⟩ := info_parts info_u8
  have hq := qL_first s h h0
  have f2 : ((s.size : Int) == 0) = false := beq_eq_false_iff_ne.2 (by omega)
  have f1 : ((s[0].toNat : Int) != 34) = false := by rw [h0]; rfl
  have HQ := Lib.hid hq
  clear h0 hq
  go_enter Tryd.func41, Tryd.ntmps41
  go_wp2_with fail
  clear f1 f2
  go_loopw [4, 5, 6, 7, 8] (fun v i _ _ _ wr => ∃ (a f : Nat) (acc : List UInt8), i = .int .i64 a ∧ a ≤ s.size ∧ s.size - a < f ∧ acc.length ≤ a ∧ wr.ownsRow w.heap.size 5 1 v acc.length (acc.map u8v) ∧ Below w.heap.size w wr ∧
      Hid (qL s.data.toList = qScan f (s.data.toList.drop a) acc a)) (fun _ i _ _ _ _ => s.size - (intOf i).toNat)
  case atStart => exact ⟨1, s.size, [], rfl, by omega, by omega, by simp, World.ownsRow_nil _ _ _ _, Below.refl _ _, HQ⟩
  case round =>
    obtain ⟨a, f, acc, rfl, ha, hf, hac, hown, hbel, hq⟩ := hrel
    clear HQ
    obtain ⟨f, rfl⟩ : ∃ f', f = f' + 1 := ⟨f - 1, by omega⟩
    by_cases hlt : a < s.size
    · have hst := qScan_at s a f acc hlt
      by_cases hc : s[a] = 34
      · rw [if_pos hc, ← hq.out] at hst
        have HST := Lib.hid hst
        have f1 : ((s[a].toNat : Int) != 34) = false := by rw [hc]; rfl
        have f3 : ((a : Int) == (s.size : Int)) = false := beq_eq_false_iff_ne.2 (by omega)
        have hcv := conv_own hown
        clear hst hc hown hq
        go_wp2_with fail
        go_ret2
        exact qPost_some HST.out (by simp) hbel
      · rw [if_neg hc, ← hq.out] at hst
        have HST := Lib.hid hst
        have f1 : ((s[a].toNat : Int) != 34) = true := by
          rw [bne_iff_ne]; intro e; exact hc (u8_eq_of_int _ 34 (by decide) e)
        obtain ⟨l, hl⟩ : ∃ l, l = s.data.toList.drop a := ⟨_, rfl⟩
        have HL := Lib.hid hl
        clear hst hc hq hl
        obtain ⟨wo, rfl⟩ : ∃ wo : World, wo = wr := ⟨_, rfl⟩
        go_wp2_with fail
        clear f1
        go_loopw [4, 5, 6, 7, 8] (fun v i fd c _ wq => ∃ (j : Nat) (found : Bool) (out : List UInt8) (a' : Nat), fd = .bool found ∧ c = .int .i64 j ∧ j ≤ 256 ∧ i = .int .i64 a' ∧ Hid (InRel l acc a j found out a') ∧ a' ≤ s.size ∧ out.length ≤ a' ∧
            wq.ownsRow w.heap.size 5 1 v out.length (out.map u8v) ∧ Below w.heap.size w wq) (fun _ _ _ c _ _ => 256 - (intOf c).toNat)
        case atStart => exact ⟨0, false, acc, a, rfl, rfl, by omega, rfl, Lib.hid (.inl ⟨rfl, rfl, rfl, fun i hi => by omega⟩), ha, hac, hown, hbel⟩
        case round =>
          obtain ⟨j, found, out, a', rfl, rfl, hj, rfl, hin, ha2, hol, hown2, hbel2⟩ := hrel
          clear hown
          cases found with
          | true =>
            have hin2 : ∃ b, unescL l = some b ∧ out = acc ++ [b] ∧ a' = a + (escL b).length := by
              rcases hin.out with ⟨h, _⟩ | ⟨_, h⟩
              · cases h
              · exact h
            have HIN := Lib.hid hin2
            clear hin hin2
            go_wp2_with fail
            all_goals
              go_roundw
              case rel =>
                obtain ⟨b, hb1, hb2, hb3⟩ := HIN.out
                have hpos := escL_pos b
                refine ⟨a', f, out, rfl, ha2, by omega, hol, hown2, hbel2, ?_⟩
                have := HST.out
                rw [← HL.out, hb1] at this
                dsimp only at this
                rw [hb2, hb3]
                exact Lib.hid this
              case measure =>
                obtain ⟨b, hb1, hb2, hb3⟩ := HIN.out
                have hpos := escL_pos b
                simp [intOf]; omega
          | false =>
            obtain ⟨rfl, rfl, hno⟩ : out = acc ∧ a' = a ∧ ∀ i, i < j → (escL (UInt8.ofNat i)).isPrefixOf l = false := by
              rcases hin.out with ⟨_, h1, h2, h3⟩ | ⟨h, _⟩
              · exact ⟨h1, h2, h3⟩
              · cases h
            have HNO := Lib.hid hno
            clear hin hno
            by_cases hj2 : j < 256
            · obtain ⟨c, rfl⟩ : ∃ c : UInt8, j = c.toNat := ⟨UInt8.ofNat j, by simp; omega⟩
              have hcall := Lib.hid (fun w => resc_any c w)
              unfold EscPost at hcall
              obtain ⟨E, hE⟩ : ∃ E, E = escL c := ⟨_, rfl⟩
              rw [← hE] at hcall
              have hE4 : E.length ≤ 4 := by rw [hE]; exact escL_le c
              have HEE := Lib.hid hE
              have hll : l.length = s.size - a' := by rw [HL.out, List.length_drop, length_data]
              have HLL := Lib.hid hll
              by_cases hp : E.isPrefixOf l = true
              · have hpl : E.length ≤ s.size - a' := by
                  obtain ⟨t, ht⟩ := pre_iff.1 hp
                  have := congrArg List.length ht
                  simp at this; omega
                have g1 : decide ((E.length : Int) ≤ (s.size : Int) - (a' : Int)) = true := decide_eq_true (by omega)
                have g2 : ((s.extract a' (a' + E.length)).toList == E) = true := by
                  rw [ext_pre s a' E.length, ← HL.out]
                  obtain ⟨t, ht⟩ := pre_iff.1 hp
                  rw [← ht]; simp
                have HP := Lib.hid (unescL_some (by rw [← hE]; exact hp : (escL c).isPrefixOf l = true))
                have HO := Lib.hid hown2
                have hsz := hbel2.size
                clear hE hll hp hown2
                go_wp2_with (first
                  | (go_at_call 43; refine (hcall.out _).mono ?_; rintro e w2 ⟨rfl, hb2⟩; have hown3 := own_below HO.out hb2)
                  | (at_builtin; refine wpList_append_own _ rfl _ _ 38 rfl _ 5 i0 (.int .u8 0) 1 1 Tryd.underlying38 hi hz0 hz1 hz2 rfl (by decide) _ _ _ rfl (hown3.alloc _) ⟨w2.heap.size, 0, none⟩ ([c]).length ([c]).length (([c]).map u8v) rfl rfl (new_cells_at _ w2.heap.size (by simp) [c]) (u8v_one _) ?c3 ?c4 ?c5 ?_)
                  )
                case c3 => simp [maxLen]; omega
                case c4 => simp; omega
                case c5 => simp; have := hb2.size; omega
                intro v4 w4 hown4 hgrow4 _
                have hb5 : Below w.heap.size w w4 := AppPost.below hown3 (hbel2.trans (hb2.mono hsz)) hgrow4 (by have := hb2.size; omega)
                have hown5 : w4.ownsRow w.heap.size 5 1 v4 (out ++ [c]).length ((out ++ [c]).map u8v) := own_map hown4 rfl (by simp)
                clear hown3 hown4 hgrow4 hb2
                go_wp2_with fail
                go_roundw
                case rel => exact ⟨c.toNat + 1, true, out ++ [c], a' + E.length, rfl, by go_num, by omega, by go_num, Lib.hid (.inr ⟨rfl, c, HP.out, rfl, by rw [HEE.out]⟩), by omega, by have := escL_pos c; rw [← HEE.out] at this; simp; omega, hown5, hb5⟩
                case measure => simp [intOf]; omega
              · have hp : E.isPrefixOf l = false := Bool.eq_false_iff.2 hp
                have hnx : ∀ i, i < c.toNat + 1 → (escL (UInt8.ofNat i)).isPrefixOf l = false := by
                  intro i hi'
                  by_cases hic : i = c.toNat
                  · rw [hic]; simp only [UInt8.ofNat_toNat]; rw [← hE]; exact hp
                  · exact HNO.out i (by omega)
                have HNX := Lib.hid hnx
                have HO := Lib.hid hown2
                have hsz := hbel2.size
                by_cases hpl : E.length ≤ s.size - a'
                · have g1 : decide ((E.length : Int) ≤ (s.size : Int) - (a' : Int)) = true := decide_eq_true (by omega)
                  have g2 : ((s.extract a' (a' + E.length)).toList == E) = false := by
                    rw [ext_pre s a' E.length, ← HL.out, beq_eq_false_iff_ne]
                    intro e
                    rw [Bool.eq_false_iff] at hp
                    exact hp (pre_iff.2 ⟨l.drop E.length, by conv => lhs; arg 1; rw [← e]
                                                             exact List.take_append_drop _ _⟩)
                  clear hE hll hp hown2 hnx
                  go_wp2_with (go_at_call 43; refine (hcall.out _).mono ?_; rintro e w2 ⟨rfl, hb2⟩)
                  go_roundw
                  case rel => exact ⟨c.toNat + 1, false, out, a', rfl, by go_num, by omega, rfl, Lib.hid (.inl ⟨rfl, rfl, rfl, HNX.out⟩), ha2, hol, own_below HO.out hb2, hbel2.trans (hb2.mono hsz)⟩
                  case measure => simp [intOf]; omega
                · have g1 : decide ((E.length : Int) ≤ (s.size : Int) - (a' : Int)) = false := decide_eq_false (by omega)
                  clear hE hll hp hown2 hnx
                  go_wp2_with (go_at_call 43; refine (hcall.out _).mono ?_; rintro e w2 ⟨rfl, hb2⟩)
                  go_roundw
                  case rel => exact ⟨c.toNat + 1, false, out, a', rfl, by go_num, by omega, rfl, Lib.hid (.inl ⟨rfl, rfl, rfl, HNX.out⟩), ha2, hol, own_below HO.out hb2, hbel2.trans (hb2.mono hsz)⟩
                  case measure => simp [intOf]; omega
            · obtain rfl : j = 256 := by omega
              have hz : qL s.data.toList = none := by
                have := HST.out
                rw [← HL.out, unescL_none (fun c => by have := HNO.out c.toNat c.toNat_lt; simpa using this)] at this
                exact this
              have HZ := Lib.hid hz
              clear hz hown2
              go_wp2_with fail
              go_ret2
              exact qPost_none HZ.out hbel2
    · obtain rfl : a = s.size := by omega
      have hst := hq.out
      rw [List.drop_of_length_le (by rw [length_data]; exact Nat.le_refl _)] at hst
      have HST := Lib.hid (show qL s.data.toList = none from hst)
      clear hst hown hq
      go_wp2_with fail
      go_ret2
      exact qPost_none HST.out hbel

theorem rq_any (s : ByteArray) (w : World) (hs : s.size ≤ 100000000000) : Calls Tryd.prog 41 #[.string s] w (QPost w s.data.toList) := by
  rcases Nat.eq_zero_or_pos s.size with h | h
  · exact rq_bad s w hs (.inl h)
  by_cases h0 : s[0] = 34
  · exact rq_loop s w hs h h0
  · exact rq_bad s w hs (.inr ⟨h, h0⟩)
theorem runquote_any (s : ByteArray) (w : World) (hs : s.size ≤ 100000000000) :
    Calls Tryd.prog 19 #[.string s] w fun e w' => e = .returned (.tuple #[.string ⟨(unqT s.data.toList).toArray⟩, .int .i64 (unqE s.data.toList)]) ∧ Below w.heap.size w w' := by
  have hc := Lib.hid (rq_any s w hs)
  obtain ⟨n, hn⟩ : ∃ n, n = qN s.data.toList := ⟨_, rfl⟩
  unfold QPost at hc
  rw [← hn] at hc
  have HT' := Lib.hid (show unqT s.data.toList = if n = s.size ∧ n ≠ 0 then qT s.data.toList else [] by unfold unqT; rw [← hn, length_data])
  have HE' := Lib.hid (show unqE s.data.toList = if n = s.size ∧ n ≠ 0 then 0 else 6 by unfold unqE; rw [← hn, length_data])
  clear hn
  by_cases h0 : n = 0
  · have f1 : ((n : Int) == 0) = true := beq_iff_eq.2 (by omega)
    have H0 := Lib.hid h0
    clear h0
    go_enter Tryd.func19, Tryd.ntmps19
    go_wp2_with (go_at_call 41; refine hc.out.mono ?_; rintro e w2 ⟨rfl, hb2⟩)
    go_ret2
    exact ⟨ret_sn (by rw [HT'.out, if_neg (fun h => h.2 H0.out)]) (by rw [HE'.out, if_neg (fun h => h.2 H0.out)]), hb2⟩
  · have f1 : ((n : Int) == 0) = false := beq_eq_false_iff_ne.2 (by omega)
    by_cases h1 : n = s.size
    · have f2 : ((n : Int) != (s.size : Int)) = false := by simp [h1]
      have H1 := Lib.hid h1
      clear h1
      go_enter Tryd.func19, Tryd.ntmps19
      go_wp2_with (go_at_call 41; refine hc.out.mono ?_; rintro e w2 ⟨rfl, hb2⟩)
      go_ret2
      exact ⟨ret_sn (by rw [HT'.out, if_pos ⟨H1.out, h0⟩]) (by rw [HE'.out, if_pos ⟨H1.out, h0⟩]), hb2⟩
    · have f2 : ((n : Int) != (s.size : Int)) = true := by rw [bne_iff_ne]; omega
      go_enter Tryd.func19, Tryd.ntmps19
      go_wp2_with (go_at_call 41; refine hc.out.mono ?_; rintro e w2 ⟨rfl, hb2⟩)
      go_ret2
      exact ⟨ret_sn (by rw [HT'.out, if_neg (fun h => h1 h.1)]) (by rw [HE'.out, if_neg (fun h => h1 h.1)]), hb2⟩
end Go.Proofs.YtinffflkplhdiaaDoor
