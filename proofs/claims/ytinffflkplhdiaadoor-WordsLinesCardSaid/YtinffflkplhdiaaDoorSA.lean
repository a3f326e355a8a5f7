/- Layer 1: the reference's bare and Split. -/
import Derived.Test.YtinffflkplhdiaaDoorM
import Derived.Test.YtinffflkplhdiaaDoorZ
import Derived.Deep.CutRange
namespace Go.Proofs.YtinffflkplhdiaaDoor
open Go.RowKit
def bareAll (l : List UInt8) : Bool := l.all bareB && decide (0 < l.length)
theorem rbare_any (s : ByteArray) (w : World) (hs : s.size ≤ 100000000000) : Calls Tryd.prog 45 #[.string s] w fun e w' => e = .returned (.bool (bareAll s.data.toList)) ∧ w = w' := by
  go_enter Tryd.func45, Tryd.ntmps45
  go_wp2_with fail
  go_loop [3] (fun i => ∃ k : Nat, k ≤ s.size ∧ i = .int .i64 k ∧ Hid ((s.data.toList.take k).all bareB = true)) (fun i => s.size - (intOf i).toNat)
  case atStart => exact ⟨0, Nat.zero_le _, rfl, Lib.hid rfl⟩
  case round =>
    obtain ⟨k, hk, rfl, hd⟩ := hrel
    by_cases hlt : k < s.size
    · by_cases hp : plainB s[k] = true
      · by_cases h32 : s[k] = 32
        · have hb : bareB s[k] = false := by unfold bareB; rw [h32]; decide
          have f : ((s[k].toNat : Int) == 32) = true := by rw [h32]; rfl
          have hr := Lib.hid (all_get bareB s k hlt hb)
          clear h32 hb
          go_wp2_with (go_at_call 61; refine (rplain_any _ _).mono ?_; rintro e w' ⟨rfl, rfl⟩)
          go_ret
          exact ⟨ret_bool (by unfold bareAll; rw [hr.out]; rfl), rfl⟩
        · have hb : bareB s[k] = true := by unfold bareB; rw [hp]; simp [h32]
          have f : ((s[k].toNat : Int) == 32) = false := beq_eq_false_iff_ne.2 (fun e => h32 (u8_eq_of_int _ 32 (by decide) e))
          have HB := Lib.hid hb
          clear h32 hb
          go_wp2_with (go_at_call 61; refine (rplain_any _ _).mono ?_; rintro e w' ⟨rfl, rfl⟩)
          go_round
          case rel => exact ⟨k + 1, by omega, by go_num, Lib.hid (by rw [all_take_succ bareB s k hlt, hd.out, HB.out]; rfl)⟩
          case measure => simp [intOf]; omega
      · have hp : plainB s[k] = false := by simpa using hp
        have hr := Lib.hid (all_get bareB s k hlt (by unfold bareB; rw [hp]; rfl))
        go_wp2_with (go_at_call 61; refine (rplain_any _ _).mono ?_; rintro e w' ⟨rfl, rfl⟩)
        go_ret
        exact ⟨ret_bool (by unfold bareAll; rw [hr.out]; rfl), rfl⟩
    · obtain rfl : k = s.size := by omega
      have hr := Lib.hid (show s.data.toList.all bareB = true by rw [← hd.out, take_size s])
      clear hd
      by_cases h0 : 0 < s.size
      · have hz : decide ((0 : Int) < (s.size : Int)) = true := decide_eq_true (by omega)
        go_wp2_with (go_at_call 61; refine (rplain_any _ _).mono ?_; rintro e w' ⟨rfl, rfl⟩)
        go_ret
        exact ⟨ret_bool (by unfold bareAll; rw [hr.out, length_data]; simp [h0]), rfl⟩
      · have hz : decide ((0 : Int) < (s.size : Int)) = false := decide_eq_false (by omega)
        go_wp2_with (go_at_call 61; refine (rplain_any _ _).mono ?_; rintro e w' ⟨rfl, rfl⟩)
        go_ret
        exact ⟨ret_bool (by unfold bareAll; rw [length_data]; simp [h0]), rfl⟩
/-- How far the bytes that are no blank go. -/
def spN (l : List UInt8) : Nat := (l.takeWhile (fun c => decide (c ≠ 32))).length
/-- What stands for a field that was read: how long it is, its string, whether it is quoted. -/
def RF (l : List UInt8) (n : Nat) (t : List UInt8) (q : Bool) : Prop := n = fLen l ∧ n ≠ 0 ∧ t = fStr l ∧ q = fQuo l
theorem qN_head (l : List UInt8) (h : qN l ≠ 0) : l.head? = some 34 := by
  cases l with
  | nil => exact absurd rfl h
  | cons c r =>
    by_cases hc : c = 34
    · rw [hc]; rfl
    · exfalso
      apply h
      unfold qN qL
      simp only [if_neg hc]
theorem bare_ne34 (c : UInt8) (h : bareB c = true) : c ≠ 34 := by
  rintro rfl; revert h; decide
theorem bareN_eq {l : List UInt8} {j : Nat} (hj : j ≤ l.length) (h : (l.take j).all bareB = true) (hn : ∀ c, l[j]? = some c → bareB c = false) : bareN l = j := by
  unfold bareN
  have e := List.take_append_drop j l
  rw [← e, List.takeWhile_append_of_pos (by simpa using h), List.length_append, List.length_take, Nat.min_eq_left hj]
  cases hd : l.drop j with
  | nil => simp
  | cons c r =>
    have : l[j]? = some c := by
      have := List.getElem?_drop (xs := l) (i := j) (j := 0); rw [hd] at this; simpa using this.symm
    rw [List.takeWhile_cons, hn c this]; simp
theorem rf_bare {l : List UInt8} {j : Nat} (hj : j ≤ l.length) (h0 : 0 < j) (hb : (l.take j).all bareB = true) (hn : ∀ c, l[j]? = some c → c = 32) : RF l j (l.take j) false := by
  have hh : ¬ l.head? = some 34 := by
    intro e
    cases l with
    | nil => cases e
    | cons c r =>
      simp at e; subst e
      rw [show j = (j - 1) + 1 by omega, List.take_succ_cons, List.all_cons] at hb
      simp at hb
      exact bare_ne34 34 hb.1 rfl
  obtain ⟨e1, e2, e3⟩ := fBare l hh
  have hN := bareN_eq hj hb (fun c hc => by rw [hn c hc]; decide)
  exact ⟨by rw [e3, hN], by omega, by rw [e1, hN], e2.symm⟩
theorem rf_bad {l : List UInt8} {j : Nat} (hq : qN l = 0) (hj : j ≤ l.length) (hb : ¬ ((l.take j).all bareB = true ∧ 0 < j)) (hlt : ∀ i c, i < j → l[i]? = some c → c ≠ 32) (hn : ∀ c, l[j]? = some c → c = 32) : fBad l = true := by
  by_cases hh : l.head? = some 34
  · obtain ⟨_, _, e3⟩ := fQuoted l hh
    unfold fBad; rw [e3, hq]; rfl
  · obtain ⟨_, _, e3⟩ := fBare l hh
    unfold fBad
    rw [e3]
    rcases Nat.lt_or_ge (bareN l) j with h | h
    · have hl : bareN l < l.length := by omega
      have hc : l[bareN l]? = some l[bareN l] := List.getElem?_eq_getElem hl
      have h3 := hlt _ _ h hc
      rw [List.getD_eq_getElem?_getD, hc]
      simp [hl, h3]
    · have hall : (l.take j).all bareB = true := by
        have hp : l.take j <+: l.takeWhile bareB := by
          have h1 := List.takeWhile_prefix bareB (l := l)
          have h2 := List.take_prefix j l
          exact List.prefix_of_prefix_length_le h2 h1 (by rw [List.length_take]; unfold bareN at h; omega)
        rw [List.all_eq_true]
        intro c hc
        have := hp.subset hc
        exact List.all_eq_true.1 List.all_takeWhile c this
      have hj0 : j = 0 := by
        rcases Nat.eq_zero_or_pos j with h | h
        · exact h
        · exact absurd ⟨hall, h⟩ hb
      subst hj0
      have : bareN l = 0 := by
        unfold bareN
        cases l with
        | nil => rfl
        | cons c r =>
          have := hn c rfl
          subst this
          rw [List.takeWhile_cons, show bareB 32 = false by decide]; rfl
      rw [this]; rfl
theorem rf_end {l : List UInt8} {n : Nat} {t : List UInt8} {q : Bool} (h : RF l n t q) (he : n = l.length) : fGo l = [⟨t, q, true⟩] := by
  obtain ⟨h1, h2, h3, h4⟩ := h
  have hb : fBad l = false := by
    have : l.length ≠ 0 := by omega
    unfold fBad; rw [← h1, he]; simp [this]
  rw [fGo_eq, hb, if_neg (by decide), ← h1, if_pos he, h3, h4]
theorem rf_next {l : List UInt8} {n : Nat} {t : List UInt8} {q : Bool} (h : RF l n t q) (hn : l[n]? = some 32) : fGo l = ⟨t, q, true⟩ :: fGo (l.drop (n + 1)) := by
  obtain ⟨h1, h2, h3, h4⟩ := h
  have hlt := (List.getElem?_eq_some_iff.1 hn).1
  have hb : fBad l = false := by unfold fBad; rw [← h1, List.getD_eq_getElem?_getD, hn]; simp; omega
  rw [fGo_eq, hb, if_neg (by decide), ← h1, if_neg (by omega), h3, h4]
theorem rf_stop {l : List UInt8} {n : Nat} {t : List UInt8} {q : Bool} {c : UInt8} (h : RF l n t q) (hn : l[n]? = some c) (hc : c ≠ 32) : fBad l = true := by
  have hlt := (List.getElem?_eq_some_iff.1 hn).1
  unfold fBad; rw [← h.1, List.getD_eq_getElem?_getD, hn]; simp [hlt, hc]
theorem spPost_err {w w' : World} {l : List UInt8} {c : Int} (h : spE l = c) (hc : c ≠ 0) (hb : Below w.heap.size w w') : SpPost w l (.returned (.tuple #[.slice none 0 0, .int .i64 c])) w' :=
  ⟨hb, _, by rw [h], fun e => absurd (h.symm.trans e) hc, fun _ => rfl⟩
theorem spE_bad {l : List UInt8} {pre : List Item} {L : List UInt8} (h8 : ¬ 8192 < l.length) (h : fAll l = pre ++ fGo L) (hb : fBad L = true) : spE l = 6 := by
  have hg : spGood l = false := by
    unfold spGood
    rw [List.all_eq_false]
    refine ⟨⟨[], false, false⟩, ?_, by simp⟩
    rw [h, fGo_eq, if_pos hb]; simp
  unfold spE; rw [if_neg h8, hg]; rfl
set_option maxHeartbeats 800000 in
set_option maxRecDepth 100000 in
theorem rsplit_any (s : ByteArray) (w : World) (hs : s.size ≤ 100000000000) : Calls Tryd.prog 23 #[.string s] w (SpPost w s.data.toList) := by
  obtain ⟨i0, hi, hz0, hz1, hz2⟩ := info_parts info_F
  by_cases hlong : 8192 < s.size
  · have hb : decide ((8192 : Int) < (s.size : Int)) = true := decide_eq_true (by omega)
    have HE := Lib.hid (show spE s.data.toList = 3 by unfold spE; rw [length_data, if_pos hlong])
    clear hlong
    go_enter Tryd.func23, Tryd.ntmps23
    go_wp2
    go_ret2
    exact spPost_err HE.out (by decide) (Below.refl _ _)
  have hb : decide ((8192 : Int) < (s.size : Int)) = false := decide_eq_false (by omega)
  have HL := Lib.hid (show ¬ 8192 < s.data.toList.length by rw [length_data]; exact hlong)
  by_cases h0 : s.size = 0
  · have hN := toList_nil s h0
    have hf : fAll s.data.toList = [] := by rw [eq_nil_zero s h0]; rfl
    have HE := Lib.hid (show spE s.data.toList = 0 by unfold spE spGood; rw [if_neg HL.out, hf]; rfl)
    have HF := Lib.hid hf
    clear hf
    go_enter Tryd.func23, Tryd.ntmps23
    go_wp2
    go_ret2
    exact ⟨Below.refl _ _, .slice none 0 0, by rw [HE.out]; rfl, fun _ => ⟨by rw [HF.out]; exact World.ownsRow_nil _ _ _ _, by rw [HF.out]; simp⟩, fun _ => rfl⟩
  have hN := ne_nil_pos s (by omega)
  have hE := isEmpty_pos s (by omega)
  have HF0 := Lib.hid (show fAll s.data.toList = [] ++ fGo (s.data.toList.drop 0) by
    unfold fAll fGo; rw [if_neg (by rw [← toList_data]; exact hN)]; rfl)
  go_enter Tryd.func23, Tryd.ntmps23
  go_wp2
  clear hN hE hb
  go_loopw [4, 5, 6] (fun v g i wr => ∃ (k : Nat) (pre : List Item), k ≤ s.size ∧ i = .int .i64 k ∧ g = .bool (longs pre) ∧ wr.ownsRow w.heap.size 49 2 v pre.length (pre.flatMap encF) ∧ (v = .slice none 0 0 ↔ pre = []) ∧ Below w.heap.size w wr ∧ Hid (fAll s.data.toList = pre ++ fGo (s.data.toList.drop k)) ∧ Hid (∀ x ∈ pre, x.ok = true) ∧ pre.length ≤ k) (fun _ _ i _ => s.size + 1 - (intOf i).toNat)
  case atStart => exact ⟨0, [], Nat.zero_le _, rfl, rfl, World.ownsRow_nil _ _ _ _, by simp, Below.refl _ _, HF0, Lib.hid (by simp), Nat.le_refl _⟩
  case round =>
    obtain ⟨k, pre, hk, rfl, rfl, hown, hnil, hbel, hall, hok, hpk⟩ := hrel
    have hrs : (s.extract k s.size).size = s.size - k := ext_size s k hk
    have hrd : (s.extract k s.size).data.toList = s.data.toList.drop k := ext_drop s k
    obtain ⟨L, hL⟩ : ∃ L, L = s.data.toList.drop k := ⟨_, rfl⟩
    have hLl : L.length = s.size - k := by rw [hL, List.length_drop, length_data]
    have QP := Lib.hid (rq_any (s.extract k s.size) wr (by rw [hrs]; omega))
    rw [hrd, ← hL] at QP
    unfold QPost at QP
    rw [← hL] at hall
    have HLL := Lib.hid hL
    have HO := Lib.hid hown
    have HNIL := Lib.hid hnil
    have HB := Lib.hid hbel
    clear hrd hL hnil hown
    go_upto_if 25 with (go_at_call 41; refine QP.out.mono ?_; rintro e w1 ⟨rfl, hb1⟩)
    have hb1s := hb1.size
    go_cut [8] from 15 to 76 (fun nv wx => ∃ (N : Nat) (T : List UInt8) (q : Bool), nv = .int .i64 N ∧ Hid (RF L N T q) ∧ N ≤ s.size - k ∧ wx.heap[w1.heap.size]? = some (.cells #[.string ⟨T.toArray⟩, .bool q] 49) ∧ Hid (Below wr.heap.size wr wx))
    case first =>
      obtain ⟨N0, hN0⟩ : ∃ n, n = qN L := ⟨_, rfl⟩
      rw [← hN0]
      have HN0 := Lib.hid hN0
      have hle : N0 ≤ s.size - k := by rw [hN0, ← hLl]; exact qN_le L
      clear hN0
      by_cases hq : N0 = 0
      · subst hq
        go_wp2
        go_loop [8] (fun i => ∃ j : Nat, j ≤ s.size - k ∧ i = .int .i64 j ∧ Hid (∀ i c, i < j → L[i]? = some c → c ≠ 32)) (fun i => s.size - k - (intOf i).toNat)
        case atStart => exact ⟨0, Nat.zero_le _, rfl, Lib.hid (fun i c h => by omega)⟩
        case round =>
          obtain ⟨j, hj, rfl, hno⟩ := hrel
          have hkj : ((k : Int) + (j : Int)).toNat = k + j := by omega
          have LK : ∀ (hlt : k + j < s.size), L[j]? = some s[k + j] := fun hlt => by rw [HLL.out, List.getElem?_drop]; exact data_get s (k + j) hlt
          have HLK := Lib.hid LK
          clear LK
          by_cases hgo : ∃ hlt : k + j < s.size, s[k + j] ≠ 32
          · obtain ⟨hlt, hne⟩ := hgo
            have t1 : decide ((k : Int) + (j : Int) < (s.size : Int)) = true := decide_eq_true (by omega)
            have t2 : ((s[k + j].toNat : Int) != 32) = true := by rw [bne_iff_ne]; intro e; exact hne (u8_eq_of_int _ 32 (by decide) e)
            have HNE := Lib.hid hne
            clear hne
            go_wp2
            go_round
            case rel =>
              refine ⟨trivial, ?_⟩
              (repeat apply Exists.intro)
              refine ⟨⟨j + 1, by omega, by go_num, Lib.hid ?_⟩, rfl⟩
              intro i c hi hc
              by_cases hij : i < j
              · exact hno.out i c hij hc
              · obtain rfl : i = j := by omega
                rw [HLK.out hlt] at hc; cases hc; exact HNE.out
            case measure => simp [intOf]; omega
          · have hstop : ∀ c, L[j]? = some c → c = 32 := by
              intro c hc
              have hl := (List.getElem?_eq_some_iff.1 hc).1
              have hlt : k + j < s.size := by omega
              rw [HLK.out hlt] at hc
              cases hc
              by_cases e : s[k + j] = 32
              · exact e
              · exact absurd ⟨hlt, e⟩ hgo
            have hjl : j ≤ L.length := by omega
            have hex : s.extract k (k + j) = ⟨(L.take j).toArray⟩ := by rw [Lib.extract_eq, HLL.out]; congr 3; omega
            have HEX := Lib.hid hex
            have BC := Lib.hid (fun w' => rbare_any (s.extract k (k + j)) w' (by simp; omega))
            have hbd : (s.extract k (k + j)).data.toList = L.take j := by rw [hex]
            rw [hbd] at BC
            have HBJ := Lib.hid (show bareAll (L.take j) = true → RF L j (L.take j) false from fun h => by
              unfold bareAll at h
              rw [Bool.and_eq_true, List.length_take] at h
              have h0 : 0 < j := by have := of_decide_eq_true h.2; omega
              exact rf_bare hjl h0 h.1 hstop)
            have HBN := Lib.hid (show bareAll (L.take j) = false → spE s.data.toList = 6 from fun h => by
              refine spE_bad HL.out hall.out (rf_bad HN0.out.symm hjl (fun hh => ?_) hno.out hstop)
              unfold bareAll at h
              rw [hh.1, List.length_take, decide_eq_true (by omega)] at h
              cases h)
            clear hstop hex hbd
            have hB1 := Lib.hid (hb1.alloc (by omega) (.cells #[.string (s.extract k (k + j)), .bool false] 49))
            generalize bareAll (L.take j) = ba at BC HBJ HBN
            by_cases hend : k + j < s.size
            · have h32 : s[k + j] = 32 := by
                by_cases e : s[k + j] = 32
                · exact e
                · exact absurd ⟨hend, e⟩ hgo
              have t1 : decide ((k : Int) + (j : Int) < (s.size : Int)) = true := decide_eq_true (by omega)
              have t2 : ((s[k + j].toNat : Int) != 32) = false := by rw [h32]; rfl
              clear h32 hgo
              cases ba
              · have HE6 := Lib.hid (HBN.out rfl)
                go_wp2_with (go_at_call 45; refine (BC.out _).mono ?_; rintro e w' ⟨rfl, rfl⟩)
                go_ret2
                exact spPost_err HE6.out (by decide) (HB.out.trans ((hb1.alloc (by omega) _).mono HB.out.size))
              · have HRF := Lib.hid (HBJ.out rfl)
                go_wp2_with (go_at_call 45; refine (BC.out _).mono ?_; rintro e w' ⟨rfl, rfl⟩)
                go_meet
                exact ⟨j, L.take j, false, rfl, HRF, hj, by rw [World.alloc_heap_new, HEX.out], hB1⟩
            · have t1 : decide ((k : Int) + (j : Int) < (s.size : Int)) = false := decide_eq_false (by omega)
              clear hgo
              cases ba
              · have HE6 := Lib.hid (HBN.out rfl)
                go_wp2_with (go_at_call 45; refine (BC.out _).mono ?_; rintro e w' ⟨rfl, rfl⟩)
                go_ret2
                exact spPost_err HE6.out (by decide) (HB.out.trans ((hb1.alloc (by omega) _).mono HB.out.size))
              · have HRF := Lib.hid (HBJ.out rfl)
                go_wp2_with (go_at_call 45; refine (BC.out _).mono ?_; rintro e w' ⟨rfl, rfl⟩)
                go_meet
                exact ⟨j, L.take j, false, rfl, HRF, hj, by rw [World.alloc_heap_new, HEX.out], hB1⟩
      · have hz : ((N0 : Int) == 0) = false := beq_eq_false_iff_ne.2 (by omega)
        have HRF := Lib.hid (show RF L N0 (qT L) true by
          obtain ⟨e1, e2, e3⟩ := fQuoted L (qN_head L (by rw [← HN0.out]; exact hq))
          exact ⟨by rw [e3]; exact HN0.out, hq, e1.symm, e2.symm⟩)
        have HBB := Lib.hid (hb1.alloc (by omega) (.cells #[.string ⟨(qT L).toArray⟩, .bool true] 49))
        clear hq
        go_wp2
        go_meet
        exact ⟨N0, qT L, true, rfl, HRF, hle, World.alloc_heap_new _ _, HBB⟩
    case rest =>
      obtain ⟨N, T, q, rfl, hrf, hNk, hbx, hbw⟩ := hcut
      obtain ⟨S, hS⟩ : ∃ S : ByteArray, S = ⟨T.toArray⟩ := ⟨_, rfl⟩
      rw [← hS] at hbx
      have hSs : S.size = T.length := by rw [hS, size_mk]
      have hws := hbw.out.size
      have hbl := in_heap hbx
      have hown2 := HO.out.kept (grown_of_below hbw.out) (own_some HO.out)
      have hvb : ∀ j, u4.ownBlock = some j → j < wr.heap.size := by
        intro j hj
        rcases HO.out.2 with ⟨e, _⟩ | ⟨g, cap, cur, e, _, hgg, _⟩
        · rw [e] at hj; cases hj
        · rw [e] at hj; cases hj; exact in_heap hgg
      have c0 := (two_of hbx).1
      have c1 := (two_of hbx).2
      have HOW := Lib.hid hown2
      have hkN : ((k : Int) + (N : Int)).toNat = k + N := by omega
      have hpl : pre.length ≤ 100000 := by have := HL.out; rw [length_data] at this; omega
      have KEEP := Lib.hid (show ∀ w', (wc.alloc (.cells #[.string S, .bool q] 49)).grownBy w' u4.ownBlock → w'.cell? ⟨w1.heap.size, 0, none⟩ = some (.string S) ∧ Below w.heap.size w w' from fun w' hgr => by
        have hh : w'.heap[w1.heap.size]? = some (.cells #[.string S, .bool q] 49) := (hgr.block _ (by rw [World.size_alloc]; omega) (fun e => by have := hvb _ e.symm; omega)).trans ((Below.heap_alloc _ _ _ hbl).trans hbx)
        refine ⟨(two_of hh).1, ?_⟩
        have hb2 : Below w.heap.size w wc := HB.out.trans (hbw.out.mono HB.out.size)
        exact (hb2.alloc hb2.size _).grown hgr (by rw [World.size_alloc]; have := hb2.size; omega) (fun j e => own_ge HO.out e))
      have HIT := Lib.hid (show encF ⟨T, q, true⟩ = [.string S, .bool q] by unfold encF; rw [hS])
      have HLG := Lib.hid (show longs (pre ++ [⟨T, q, true⟩]) = (longs pre || decide (2000 < S.size)) by unfold longs; rw [hSs]; simp)
      have HLK := Lib.hid (show ∀ (hlt : k + N < s.size), L[N]? = some s[k + N] from fun hlt => by rw [HLL.out, List.getElem?_drop]; exact data_get s (k + N) hlt)
      generalize longs pre = lg at HLG ⊢
      clear hS hSs hown2 hbx hvb
      obtain ⟨lg2, hlg2⟩ : ∃ b, b = (lg || decide (2000 < S.size)) := ⟨_, rfl⟩
      rw [← hlg2] at HLG
      by_cases hend : k + N = s.size
      · have t1 : ((k : Int) + (N : Int) == (s.size : Int)) = true := beq_iff_eq.2 (by omega)
        have hfin : fAll s.data.toList = pre ++ [⟨T, q, true⟩] := by rw [hall.out, rf_end hrf.out (by omega)]
        have HFIN := Lib.hid hfin
        have hEE : spE s.data.toList = if lg2 || decide (64 < pre.length + 1) then 3 else 0 := by
          have hg : spGood s.data.toList = true := by
            unfold spGood; rw [hfin, List.all_eq_true]
            intro x hx
            rcases List.mem_append.1 hx with hx | hx
            · exact hok.out x hx
            · simp at hx; rw [hx]
          unfold spE
          rw [if_neg HL.out, hg, if_pos rfl, hfin, HLG.out, List.length_append]; rfl
        have HEE := Lib.hid hEE
        clear hfin hEE
        cases lg
        · by_cases h2 : 2000 < S.size
          · have t3 : decide ((2000 : Int) < (S.size : Int)) = true := decide_eq_true (by omega)
            obtain rfl : lg2 = true := by rw [hlg2]; simp [h2]
            clear hlg2 h2
            go_wp2_with (at_builtin; refine wpList_append_own _ rfl _ _ 32 rfl w.heap.size 49 i0 (.agg #[.string ⟨#[]⟩, .bool false]) 2 24 Tryd.underlying32 hi hz0 hz1 hz2 rfl (by decide) _ pre.length _ rfl (HOW.out.alloc _) ⟨wc.heap.size, 0, none⟩ 1 1 [.string S, .bool q] rfl rfl ?c2 (two_one _ _ rfl rfl) ?c3 ?c4 ?c5 ?_)
            case c2 => exact cell_two_new wc (.string S) (.bool q) 49
            case c3 => simp [maxLen]; omega
            case c4 => omega
            case c5 => simp; have := HB.out.size; omega
            intro v' w3 hown3 hgr hnil3
            obtain ⟨c3, hb3⟩ := KEEP.out w3 hgr
            obtain ⟨p1, n1, m1, rfl, hn1⟩ : ∃ p a b, v' = .slice p a b ∧ a = pre.length + 1 := by
              rcases hown3.2 with ⟨_, h⟩ | ⟨g, cap, cur, e, _⟩
              · omega
              · exact ⟨_, _, _, e, rfl⟩
            have HN1 := Lib.hid hn1
            have HO3 := Lib.hid hown3
            have HN3 := Lib.hid hnil3
            clear hown3 hgr hnil3 hn1
            go_wp2
            go_ret2
            exact spPost_err (HEE.out.trans rfl) (by decide) hb3
          · have t3 : decide ((2000 : Int) < (S.size : Int)) = false := decide_eq_false (by omega)
            obtain rfl : lg2 = false := by rw [hlg2]; simp [h2]
            clear hlg2 h2
            go_wp2_with (at_builtin; refine wpList_append_own _ rfl _ _ 32 rfl w.heap.size 49 i0 (.agg #[.string ⟨#[]⟩, .bool false]) 2 24 Tryd.underlying32 hi hz0 hz1 hz2 rfl (by decide) _ pre.length _ rfl (HOW.out.alloc _) ⟨wc.heap.size, 0, none⟩ 1 1 [.string S, .bool q] rfl rfl ?c2 (two_one _ _ rfl rfl) ?c3 ?c4 ?c5 ?_)
            case c2 => exact cell_two_new wc (.string S) (.bool q) 49
            case c3 => simp [maxLen]; omega
            case c4 => omega
            case c5 => simp; have := HB.out.size; omega
            intro v' w3 hown3 hgr hnil3
            obtain ⟨c3, hb3⟩ := KEEP.out w3 hgr
            obtain ⟨p1, n1, m1, rfl, hn1⟩ : ∃ p a b, v' = .slice p a b ∧ a = pre.length + 1 := by
              rcases hown3.2 with ⟨_, h⟩ | ⟨g, cap, cur, e, _⟩
              · omega
              · exact ⟨_, _, _, e, rfl⟩
            have HN1 := Lib.hid hn1
            have HO3 := Lib.hid hown3
            have HN3 := Lib.hid hnil3
            clear hown3 hgr hnil3 hn1
            by_cases h64 : 64 < n1
            · have t4 : decide ((64 : Int) < (n1 : Int)) = true := decide_eq_true (by omega)
              have HE3 := Lib.hid (HEE.out.trans (if_pos (by rw [← HN1.out]; simp [h64])))
              clear h64
              go_wp2
              go_ret2
              exact spPost_err HE3.out (by decide) hb3
            · have t4 : decide ((64 : Int) < (n1 : Int)) = false := decide_eq_false (by omega)
              have HE0 := Lib.hid (HEE.out.trans (if_neg (by rw [← HN1.out]; simp [h64])))
              clear h64
              go_wp2
              go_ret2
              refine ⟨hb3, _, by rw [HE0.out]; rfl, fun _ => ⟨?_, ⟨fun e => absurd e HN3.out, fun e => by rw [HFIN.out] at e; simp at e⟩⟩, fun e => absurd HE0.out e⟩
              rw [HFIN.out, List.length_append, List.flatMap_append]
              have := HO3.out
              rw [HN1.out] at this ⊢
              simpa [HIT.out] using this
        · obtain rfl : lg2 = true := by rw [hlg2]; rfl
          clear hlg2
          go_wp2_with (at_builtin; refine wpList_append_own _ rfl _ _ 32 rfl w.heap.size 49 i0 (.agg #[.string ⟨#[]⟩, .bool false]) 2 24 Tryd.underlying32 hi hz0 hz1 hz2 rfl (by decide) _ pre.length _ rfl (HOW.out.alloc _) ⟨wc.heap.size, 0, none⟩ 1 1 [.string S, .bool q] rfl rfl ?c2 (two_one _ _ rfl rfl) ?c3 ?c4 ?c5 ?_)
          case c2 => exact cell_two_new wc (.string S) (.bool q) 49
          case c3 => simp [maxLen]; omega
          case c4 => omega
          case c5 => simp; have := HB.out.size; omega
          intro v' w3 hown3 hgr hnil3
          obtain ⟨c3, hb3⟩ := KEEP.out w3 hgr
          obtain ⟨p1, n1, m1, rfl, hn1⟩ : ∃ p a b, v' = .slice p a b ∧ a = pre.length + 1 := by
            rcases hown3.2 with ⟨_, h⟩ | ⟨g, cap, cur, e, _⟩
            · omega
            · exact ⟨_, _, _, e, rfl⟩
          have HN1 := Lib.hid hn1
          have HO3 := Lib.hid hown3
          have HN3 := Lib.hid hnil3
          clear hown3 hgr hnil3 hn1
          go_wp2
          go_ret2
          exact spPost_err (HEE.out.trans rfl) (by decide) hb3
      · have t1 : ((k : Int) + (N : Int) == (s.size : Int)) = false := beq_eq_false_iff_ne.2 (by omega)
        have hlt : k + N < s.size := by omega
        by_cases h32 : s[k + N] = 32
        · have t2 : ((s[k + N].toNat : Int) != 32) = false := by rw [h32]; rfl
          have HNX := Lib.hid (show fAll s.data.toList = (pre ++ [⟨T, q, true⟩]) ++ fGo (s.data.toList.drop (k + N + 1)) by
            rw [hall.out, rf_next hrf.out (by rw [HLK.out hlt, h32]), HLL.out, List.drop_drop, List.append_assoc]; rfl)
          clear h32
          cases lg
          · by_cases h2 : 2000 < S.size
            · have t3 : decide ((2000 : Int) < (S.size : Int)) = true := decide_eq_true (by omega)
              obtain rfl : lg2 = true := by rw [hlg2]; simp [h2]
              clear hlg2 h2
              go_wp2_with (at_builtin; refine wpList_append_own _ rfl _ _ 32 rfl w.heap.size 49 i0 (.agg #[.string ⟨#[]⟩, .bool false]) 2 24 Tryd.underlying32 hi hz0 hz1 hz2 rfl (by decide) _ pre.length _ rfl (HOW.out.alloc _) ⟨wc.heap.size, 0, none⟩ 1 1 [.string S, .bool q] rfl rfl ?c2 (two_one _ _ rfl rfl) ?c3 ?c4 ?c5 ?_)
              case c2 => exact cell_two_new wc (.string S) (.bool q) 49
              case c3 => simp [maxLen]; omega
              case c4 => omega
              case c5 => simp; have := HB.out.size; omega
              intro v' w3 hown3 hgr hnil3
              obtain ⟨c3, hb3⟩ := KEEP.out w3 hgr
              obtain ⟨p1, n1, m1, rfl, hn1⟩ : ∃ p a b, v' = .slice p a b ∧ a = pre.length + 1 := by
                rcases hown3.2 with ⟨_, h⟩ | ⟨g, cap, cur, e, _⟩
                · omega
                · exact ⟨_, _, _, e, rfl⟩
              have HN1 := Lib.hid hn1
              have HO3 := Lib.hid hown3
              have HN3 := Lib.hid hnil3
              clear hown3 hgr hnil3 hn1
              go_wp2
              go_roundw
              case rel =>
                exact ⟨k + N + 1, pre ++ [⟨T, q, true⟩], by omega, by go_num, by rw [HLG.out], by
                  have := HO3.out
                  rw [List.length_append, List.flatMap_append]
                  rw [HN1.out] at this ⊢
                  simpa [HIT.out] using this, ⟨fun e => absurd e HN3.out, fun e => by simp at e⟩, hb3, HNX, Lib.hid (fun x hx => by
                  rcases List.mem_append.1 hx with hx | hx
                  · exact hok.out x hx
                  · simp at hx; rw [hx]), by rw [List.length_append]; simp; omega⟩
              case measure => simp [intOf]; omega
            · have t3 : decide ((2000 : Int) < (S.size : Int)) = false := decide_eq_false (by omega)
              obtain rfl : lg2 = false := by rw [hlg2]; simp [h2]
              clear hlg2 h2
              go_wp2_with (at_builtin; refine wpList_append_own _ rfl _ _ 32 rfl w.heap.size 49 i0 (.agg #[.string ⟨#[]⟩, .bool false]) 2 24 Tryd.underlying32 hi hz0 hz1 hz2 rfl (by decide) _ pre.length _ rfl (HOW.out.alloc _) ⟨wc.heap.size, 0, none⟩ 1 1 [.string S, .bool q] rfl rfl ?c2 (two_one _ _ rfl rfl) ?c3 ?c4 ?c5 ?_)
              case c2 => exact cell_two_new wc (.string S) (.bool q) 49
              case c3 => simp [maxLen]; omega
              case c4 => omega
              case c5 => simp; have := HB.out.size; omega
              intro v' w3 hown3 hgr hnil3
              obtain ⟨c3, hb3⟩ := KEEP.out w3 hgr
              obtain ⟨p1, n1, m1, rfl, hn1⟩ : ∃ p a b, v' = .slice p a b ∧ a = pre.length + 1 := by
                rcases hown3.2 with ⟨_, h⟩ | ⟨g, cap, cur, e, _⟩
                · omega
                · exact ⟨_, _, _, e, rfl⟩
              have HN1 := Lib.hid hn1
              have HO3 := Lib.hid hown3
              have HN3 := Lib.hid hnil3
              clear hown3 hgr hnil3 hn1
              go_wp2
              go_roundw
              case rel =>
                exact ⟨k + N + 1, pre ++ [⟨T, q, true⟩], by omega, by go_num, by rw [HLG.out], by
                  have := HO3.out
                  rw [List.length_append, List.flatMap_append]
                  rw [HN1.out] at this ⊢
                  simpa [HIT.out] using this, ⟨fun e => absurd e HN3.out, fun e => by simp at e⟩, hb3, HNX, Lib.hid (fun x hx => by
                  rcases List.mem_append.1 hx with hx | hx
                  · exact hok.out x hx
                  · simp at hx; rw [hx]), by rw [List.length_append]; simp; omega⟩
              case measure => simp [intOf]; omega
          · obtain rfl : lg2 = true := by rw [hlg2]; rfl
            clear hlg2
            go_wp2_with (at_builtin; refine wpList_append_own _ rfl _ _ 32 rfl w.heap.size 49 i0 (.agg #[.string ⟨#[]⟩, .bool false]) 2 24 Tryd.underlying32 hi hz0 hz1 hz2 rfl (by decide) _ pre.length _ rfl (HOW.out.alloc _) ⟨wc.heap.size, 0, none⟩ 1 1 [.string S, .bool q] rfl rfl ?c2 (two_one _ _ rfl rfl) ?c3 ?c4 ?c5 ?_)
            case c2 => exact cell_two_new wc (.string S) (.bool q) 49
            case c3 => simp [maxLen]; omega
            case c4 => omega
            case c5 => simp; have := HB.out.size; omega
            intro v' w3 hown3 hgr hnil3
            obtain ⟨c3, hb3⟩ := KEEP.out w3 hgr
            obtain ⟨p1, n1, m1, rfl, hn1⟩ : ∃ p a b, v' = .slice p a b ∧ a = pre.length + 1 := by
              rcases hown3.2 with ⟨_, h⟩ | ⟨g, cap, cur, e, _⟩
              · omega
              · exact ⟨_, _, _, e, rfl⟩
            have HN1 := Lib.hid hn1
            have HO3 := Lib.hid hown3
            have HN3 := Lib.hid hnil3
            clear hown3 hgr hnil3 hn1
            go_wp2
            go_roundw
            case rel =>
              exact ⟨k + N + 1, pre ++ [⟨T, q, true⟩], by omega, by go_num, by rw [HLG.out], by
                have := HO3.out
                rw [List.length_append, List.flatMap_append]
                rw [HN1.out] at this ⊢
                simpa [HIT.out] using this, ⟨fun e => absurd e HN3.out, fun e => by simp at e⟩, hb3, HNX, Lib.hid (fun x hx => by
                rcases List.mem_append.1 hx with hx | hx
                · exact hok.out x hx
                · simp at hx; rw [hx]), by rw [List.length_append]; simp; omega⟩
            case measure => simp [intOf]; omega
        · have t2 : ((s[k + N].toNat : Int) != 32) = true := by rw [bne_iff_ne]; intro e; exact h32 (u8_eq_of_int _ 32 (by decide) e)
          have HE6 := Lib.hid (spE_bad HL.out hall.out (rf_stop hrf.out (HLK.out hlt) h32))
          clear h32
          cases lg
          · by_cases h2 : 2000 < S.size
            · have t3 : decide ((2000 : Int) < (S.size : Int)) = true := decide_eq_true (by omega)
              obtain rfl : lg2 = true := by rw [hlg2]; simp [h2]
              clear hlg2 h2
              go_wp2_with (at_builtin; refine wpList_append_own _ rfl _ _ 32 rfl w.heap.size 49 i0 (.agg #[.string ⟨#[]⟩, .bool false]) 2 24 Tryd.underlying32 hi hz0 hz1 hz2 rfl (by decide) _ pre.length _ rfl (HOW.out.alloc _) ⟨wc.heap.size, 0, none⟩ 1 1 [.string S, .bool q] rfl rfl ?c2 (two_one _ _ rfl rfl) ?c3 ?c4 ?c5 ?_)
              case c2 => exact cell_two_new wc (.string S) (.bool q) 49
              case c3 => simp [maxLen]; omega
              case c4 => omega
              case c5 => simp; have := HB.out.size; omega
              intro v' w3 hown3 hgr hnil3
              obtain ⟨c3, hb3⟩ := KEEP.out w3 hgr
              obtain ⟨p1, n1, m1, rfl, hn1⟩ : ∃ p a b, v' = .slice p a b ∧ a = pre.length + 1 := by
                rcases hown3.2 with ⟨_, h⟩ | ⟨g, cap, cur, e, _⟩
                · omega
                · exact ⟨_, _, _, e, rfl⟩
              have HN1 := Lib.hid hn1
              have HO3 := Lib.hid hown3
              have HN3 := Lib.hid hnil3
              clear hown3 hgr hnil3 hn1
              go_wp2
              go_ret2
              exact spPost_err HE6.out (by decide) hb3
            · have t3 : decide ((2000 : Int) < (S.size : Int)) = false := decide_eq_false (by omega)
              obtain rfl : lg2 = false := by rw [hlg2]; simp [h2]
              clear hlg2 h2
              go_wp2_with (at_builtin; refine wpList_append_own _ rfl _ _ 32 rfl w.heap.size 49 i0 (.agg #[.string ⟨#[]⟩, .bool false]) 2 24 Tryd.underlying32 hi hz0 hz1 hz2 rfl (by decide) _ pre.length _ rfl (HOW.out.alloc _) ⟨wc.heap.size, 0, none⟩ 1 1 [.string S, .bool q] rfl rfl ?c2 (two_one _ _ rfl rfl) ?c3 ?c4 ?c5 ?_)
              case c2 => exact cell_two_new wc (.string S) (.bool q) 49
              case c3 => simp [maxLen]; omega
              case c4 => omega
              case c5 => simp; have := HB.out.size; omega
              intro v' w3 hown3 hgr hnil3
              obtain ⟨c3, hb3⟩ := KEEP.out w3 hgr
              obtain ⟨p1, n1, m1, rfl, hn1⟩ : ∃ p a b, v' = .slice p a b ∧ a = pre.length + 1 := by
                rcases hown3.2 with ⟨_, h⟩ | ⟨g, cap, cur, e, _⟩
                · omega
                · exact ⟨_, _, _, e, rfl⟩
              have HN1 := Lib.hid hn1
              have HO3 := Lib.hid hown3
              have HN3 := Lib.hid hnil3
              clear hown3 hgr hnil3 hn1
              go_wp2
              go_ret2
              exact spPost_err HE6.out (by decide) hb3
          · obtain rfl : lg2 = true := by rw [hlg2]; rfl
            clear hlg2
            go_wp2_with (at_builtin; refine wpList_append_own _ rfl _ _ 32 rfl w.heap.size 49 i0 (.agg #[.string ⟨#[]⟩, .bool false]) 2 24 Tryd.underlying32 hi hz0 hz1 hz2 rfl (by decide) _ pre.length _ rfl (HOW.out.alloc _) ⟨wc.heap.size, 0, none⟩ 1 1 [.string S, .bool q] rfl rfl ?c2 (two_one _ _ rfl rfl) ?c3 ?c4 ?c5 ?_)
            case c2 => exact cell_two_new wc (.string S) (.bool q) 49
            case c3 => simp [maxLen]; omega
            case c4 => omega
            case c5 => simp; have := HB.out.size; omega
            intro v' w3 hown3 hgr hnil3
            obtain ⟨c3, hb3⟩ := KEEP.out w3 hgr
            obtain ⟨p1, n1, m1, rfl, hn1⟩ : ∃ p a b, v' = .slice p a b ∧ a = pre.length + 1 := by
              rcases hown3.2 with ⟨_, h⟩ | ⟨g, cap, cur, e, _⟩
              · omega
              · exact ⟨_, _, _, e, rfl⟩
            have HN1 := Lib.hid hn1
            have HO3 := Lib.hid hown3
            have HN3 := Lib.hid hnil3
            clear hown3 hgr hnil3 hn1
            go_wp2
            go_ret2
            exact spPost_err HE6.out (by decide) hb3
end Go.Proofs.YtinffflkplhdiaaDoor
