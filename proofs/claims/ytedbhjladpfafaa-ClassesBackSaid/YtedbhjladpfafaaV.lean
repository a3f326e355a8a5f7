/- Layer 3: Prefix, Parse. -/
import Derived.Test.YtedbhjladpfafaaU
namespace Go.Proofs.Ytedbhjladpfafaa
open Go.RowKit
theorem skipB_lt {l : List UInt8} {k : Nat} {b : UInt8} (h : skipB l k b = true) : k < l.length := by
  unfold skipB at h
  cases e : l[k]? with
  | none => rw [e] at h; cases h
  | some c => exact (List.getElem?_eq_some_iff.1 e).1
theorem hexB_ok {l : List UInt8} {k : Nat} (h : (hexB l k).2.2 = true) : (hexB l k).2.1 = k + 2 := by
  unfold hexB at h ⊢
  cases e : l[k]? with
  | none => rw [e] at h; cases h
  | some c =>
    rw [e] at h
    simp only at h ⊢
    split
    · rename_i hn; rw [if_pos hn] at h; cases h
    · rename_i hn
      rw [if_neg hn] at h
      cases e2 : l[k + 1]? with
      | none => rw [e2] at h; cases h
      | some d =>
        rw [e2] at h
        simp only at h ⊢
        split
        · rename_i hm; rw [if_pos hm] at h; cases h
        · rfl
theorem oneB_gt {l : List UInt8} {k : Nat} (h : (oneB l k).2.2 = true) : k < (oneB l k).2.1 := by
  have hk : k ≤ skipN l k 92 := by unfold skipN; split <;> omega
  unfold oneB at h ⊢
  cases e : l[skipN l k 92]? with
  | none => rw [e] at h; cases h
  | some c =>
    rw [e] at h
    simp only at h ⊢
    split
    · rename_i hc
      rw [if_pos hc] at h
      have := hexB_ok h
      omega
    · rename_i hc
      rw [if_neg hc] at h
      split
      · simp only; omega
      · rename_i hd; rw [if_neg hd] at h; cases h
theorem partB_le {l : List UInt8} {k : Nat} (hk : k ≤ l.length) : (partB l k).2.1 ≤ l.length ∧ ((partB l k).2.2 = true → k < (partB l k).2.1) := by
  have h1 := oneB_le hk
  have hs := skipN_le (b := 45) h1.1
  have hs2 : (oneB l k).2.1 ≤ skipN l (oneB l k).2.1 45 := by unfold skipN; split <;> omega
  have h2 := oneB_le hs
  unfold partB
  split
  · rename_i ok
    have hg := oneB_gt ok
    split
    · split
      · split
        · exact ⟨hs, fun h => by cases h⟩
        · exact ⟨h2.1, fun _ => by simp only; omega⟩
      · exact ⟨h2.1, fun h => by cases h⟩
    · exact ⟨h1.1, fun _ => hg⟩
  · exact ⟨h1.1, fun h => by cases h⟩
/-- The parts from k on, up to the bracket. -/
def loopB (l : List UInt8) (others : Bool) : Nat → (Nat → Bool) → Nat → (Nat → Bool) × Nat × Int
  | 0, _, k => (fun _ => false, k, 6)
  | f + 1, p, k => if skipB l k 93 then (if others then (fun i => !p i) else p, k + 1, 0) else if (partB l k).2.2 then loopB l others f (fun i => p i || (partB l k).1 i) (partB l k).2.1 else (fun _ => false, (partB l k).2.1, 6)
def prefB (l : List UInt8) : (Nat → Bool) × Nat × Int := if skipB l 0 91 then loopB l (skipB l 1 94) (l.length + 1) (fun _ => false) (skipN l 1 94) else (fun _ => false, 0, 6)
def PrPost (w : World) (r : (Nat → Bool) × Nat × Int) (e : Ending) (w' : World) : Prop := e = .returned (.tuple #[sv r.1, .int .i64 (r.2.1 : Int), .int .i64 r.2.2]) ∧ Below w.heap.size w w'
set_option maxHeartbeats 400000 in
set_option maxRecDepth 100000 in
theorem prefix_any (s : ByteArray) (w : World) (hs : s.size ≤ 100000000) : Calls Try.prog 39 #[.string s] w (PrPost w (prefB s.data.toList)) := by
  obtain ⟨h1, hb⟩ := one_zero w
  have SK := fun w => skip_any s 0 91 w (by omega)
  obtain ⟨R, hR⟩ : ∃ R, R = prefB s.data.toList := ⟨_, rfl⟩
  rw [← hR]
  unfold prefB at hR
  rcases h0 : skipB s.data.toList 0 91 with _ | _
  · rw [h0, if_neg (by simp)] at hR
    simp only [h0, skipN] at SK
    have HR := Lib.hid hR
    replace SK := Lib.hid SK
    clear hR h0
    go_enter Try.func39, Try.ntmps39
    go_wp2_with (first
      | (go_at_call 50; refine (SK.out _).mono ?_; rintro e w2 ⟨rfl, rfl⟩)
      | (refine wpList_put0 rfl _ _ rfl _ rfl _ rfl h1 ?_; intro w3 s3 p3))
    refine bodyPost_ret (v := .tuple #[sv (fun _ => false), .int .i64 0, .int .i64 6]) (set_results3 Try.results39 _ _ _ _ _ _ rfl rfl rfl s3) rfl ⟨by rw [HR.out]; rfl, ?_⟩
    exact hb.trans (p3.below (Nat.le_refl _))
  · have hlen := skipB_lt h0
    rw [length_data] at hlen
    rw [h0, if_pos rfl, length_data] at hR
    simp only [h0, skipN] at SK
    have SK1 := fun w => skip_any s 1 94 w (by omega)
    have hn0 := skipN_le (l := s.data.toList) (k := 1) (b := 94) (by rw [length_data]; omega)
    rw [length_data] at hn0
    obtain ⟨others, hot⟩ : ∃ b, b = skipB s.data.toList 1 94 := ⟨_, rfl⟩
    obtain ⟨n0, hn⟩ : ∃ n, n = skipN s.data.toList 1 94 := ⟨_, rfl⟩
    rw [← hot] at SK1 hR
    rw [← hn] at SK1 hR hn0
    have HR := Lib.hid hR
    have SKA : ∀ w, Calls Try.prog 50 #[.string s, .int .i64 0, .int .u8 91] w fun e w' => e = .returned (.tuple #[.int .i64 1, .bool true]) ∧ w = w' := SK
    have SKB : ∀ w, Calls Try.prog 50 #[.string s, .int .i64 1, .int .u8 94] w fun e w' => e = .returned (.tuple #[.int .i64 (n0 : Int), .bool others]) ∧ w = w' := SK1
    replace SKA := Lib.hid SKA
    replace SKB := Lib.hid SKB
    clear hR h0 hot hn SK SK1
    go_enter Try.func39, Try.ntmps39
    go_wp2_with (first
      | (go_at_call 50; (first | ((with_reducible refine (SKA.out _).mono ?_); rintro e w2 ⟨rfl, rfl⟩) | ((with_reducible refine (SKB.out _).mono ?_); rintro e w2 ⟨rfl, rfl⟩))))
    go_loopw [5, 8, 9, 10, 11] (fun at_ _ _ _ _ wr => ∃ (f k : Nat) (p : Nat → Bool), at_ = .int .i64 (k : Int) ∧ k ≤ s.size ∧ s.size + 1 ≤ f + k ∧ loopB s.data.toList others f p k = R ∧ SA wr w.heap.size p ∧ Below w.heap.size w wr) (fun at_ _ _ _ _ _ => s.size + 1 - (intOf at_).toNat)
    case atStart => exact ⟨s.size + 1, n0, _, rfl, hn0, by omega, HR.out.symm, h1, hb⟩
    case round =>
      obtain ⟨f, k, p, rfl, hk, hfk, hl, hS, hB⟩ := hrel
      obtain ⟨f, rfl⟩ : ∃ g, f = g + 1 := ⟨f - 1, by omega⟩
      unfold loopB at hl
      have SK := fun w => skip_any s k 93 w (by omega)
      rcases hc : skipB s.data.toList k 93 with _ | _
      · rw [hc, if_neg (by simp)] at hl
        simp only [hc, skipN] at SK
        have SK : ∀ w, Calls Try.prog 50 #[.string s, .int .i64 (k : Int), .int .u8 93] w fun e w' => e = .returned (.tuple #[.int .i64 (k : Int), .bool false]) ∧ w = w' := SK
        have RP := fun w => readPart_any s k w hk (by omega)
        have hle := partB_le (l := s.data.toList) (k := k) (by rw [length_data]; exact hk)
        rw [length_data] at hle
        obtain ⟨⟨q, m, ok⟩, hr⟩ : ∃ r, r = partB s.data.toList k := ⟨_, rfl⟩
        rw [← hr] at RP hle hl
        simp only at hl hle
        replace RP : ∀ w, Calls Try.prog 51 #[.string s, .int .i64 (k : Int)] w fun e w' => e = .returned (.tuple #[sv q, .int .i64 (m : Int), .bool ok]) ∧ Below w.heap.size w w' := RP
        replace SK := Lib.hid SK
        replace RP := Lib.hid RP
        cases ok with
        | false =>
          rw [if_neg (by simp)] at hl
          have HL := Lib.hid hl.symm
          clear hl hr hc HR
          go_wp2_with (first
            | (go_at_call 50; refine (SK.out _).mono ?_; rintro e w2 ⟨rfl, rfl⟩)
            | (go_at_call 51; refine (RP.out _).mono ?_; rintro e w2 ⟨rfl, hb2⟩; have s2 := (hS.below hb2 hS.lt).alloc zeros; have z2 := SA.zero w2)
            | (refine wpList_put0 rfl _ _ rfl _ rfl _ rfl s4 ?_; intro w5 s5 p5)
            | (refine wpList_put rfl _ _ rfl _ rfl _ q rfl z2 ?_; (intro w4 z4 p4; have s4 := p4.sa (by have := (hS.below hb2 hS.lt).lt; omega) s2))
            )
          refine bodyPost_ret (v := .tuple #[sv (fun _ => false), .int .i64 (m : Int), .int .i64 6]) (set_results3 Try.results39 _ _ _ _ _ _ rfl rfl rfl s5) rfl ⟨by rw [HL.out], ?_⟩
          have b1 := hB.trans (hb2.mono hB.size)
          exact ((b1.alloc b1.size zeros).trans (p4.below b1.size)).trans (p5.below (Nat.le_refl _))
        | true =>
          rw [if_pos rfl] at hl
          have HL := Lib.hid hl
          have UN := Lib.hid (fun w => union_any p q w)
          clear hl hr hc HR
          go_wp2_with (first
            | (go_at_call 50; refine (SK.out _).mono ?_; rintro e w2 ⟨rfl, rfl⟩)
            | (go_at_call 51; refine (RP.out _).mono ?_; rintro e w2 ⟨rfl, hb2⟩; have s2 := (hS.below hb2 hS.lt).alloc zeros; have z2 := SA.zero w2; have hlt2 := (hS.below hb2 hS.lt).lt)
            | (refine wpList_get rfl _ rfl _ rfl _ s4 ?_)
            | (refine wpList_get rfl _ rfl _ rfl _ z4 ?_)
            | (go_at_call 20; refine (UN.out _).mono ?_; rintro e w6 ⟨rfl, hb6⟩; have s6 := s4.below hb6 s4.lt)
            | (refine wpList_put rfl _ _ rfl _ rfl _ (fun i => p i || q i) rfl s6 ?_; intro w5 s5 p5)
            | (refine wpList_put rfl _ _ rfl _ rfl _ q rfl z2 ?_; (intro w4 z4 p4; have s4 := p4.sa (by omega) s2))
            )
          go_roundw
          case rel =>
            have b1 := hB.trans (hb2.mono hB.size)
            have b2 := (b1.alloc b1.size zeros).trans (p4.below b1.size)
            exact ⟨f, m, _, rfl, hle.1, by have := hle.2 (by first | rfl | trivial); omega, HL.out, s5, (b2.trans (hb6.mono b2.size)).trans (p5.below (Nat.le_refl _))⟩
          case measure =>
            have := hle.2 (by first | rfl | trivial)
            simp [intOf]; omega
      · have hkl := skipB_lt hc
        rw [length_data] at hkl
        rw [hc, if_pos rfl] at hl
        simp only [hc, skipN] at SK
        have SK : ∀ w, Calls Try.prog 50 #[.string s, .int .i64 (k : Int), .int .u8 93] w fun e w' => e = .returned (.tuple #[.int .i64 ((k + 1 : Nat) : Int), .bool true]) ∧ w = w' := SK
        replace SK := Lib.hid SK
        cases others with
        | true =>
          rw [if_pos rfl] at hl
          have HL := Lib.hid hl.symm
          have NO := Lib.hid (fun w => not_any p w)
          clear hl hc HR
          go_wp2_with (first
            | (go_at_call 50; refine (SK.out _).mono ?_; rintro e w2 ⟨rfl, rfl⟩)
            | (refine wpList_get rfl _ rfl _ rfl _ hS ?_)
            | (go_at_call 26; refine (NO.out _).mono ?_; rintro e w2 ⟨rfl, hb2⟩; have s2 := hS.below hb2 hS.lt)
            | (refine wpList_put rfl _ _ rfl _ rfl _ (fun i => !p i) rfl s2 ?_; intro w5 s5 p5)
            )
          refine bodyPost_ret (v := .tuple #[sv (fun i => !p i), .int .i64 ((k + 1 : Nat) : Int), .int .i64 0]) (set_results3 Try.results39 _ _ _ _ _ _ rfl rfl rfl s5) rfl ⟨by rw [HL.out], ?_⟩
          exact (hB.trans (hb2.mono hB.size)).trans (p5.below (Nat.le_refl _))
        | false =>
          rw [if_neg (by simp)] at hl
          have HL := Lib.hid hl.symm
          clear hl hc HR
          go_wp2_with (first
            | (go_at_call 50; refine (SK.out _).mono ?_; rintro e w2 ⟨rfl, rfl⟩)
            | (refine wpList_get rfl _ rfl _ rfl _ hS ?_)
            | (refine wpList_put rfl _ _ rfl _ rfl _ p rfl hS ?_; intro w5 s5 p5)
            )
          refine bodyPost_ret (v := .tuple #[sv p, .int .i64 ((k + 1 : Nat) : Int), .int .i64 0]) (set_results3 Try.results39 _ _ _ _ _ _ rfl rfl rfl s5) rfl ⟨by rw [HL.out], ?_⟩
          exact hB.trans (p5.below (Nat.le_refl _))
def parseB (l : List UInt8) : (Nat → Bool) × Nat × Int := if (prefB l).2.2 = 0 then (if (prefB l).2.1 < l.length then (fun _ => false, (prefB l).2.1, 6) else ((prefB l).1, 0, 0)) else (fun _ => false, (prefB l).2.1, (prefB l).2.2)
set_option maxHeartbeats 400000 in
set_option maxRecDepth 100000 in
theorem parse_any (s : ByteArray) (w : World) (hs : s.size ≤ 100000000) : Calls Try.prog 38 #[.string s] w (PrPost w (parseB s.data.toList)) := by
  obtain ⟨h1, hb⟩ := one_zero w
  have PR := fun w => prefix_any s w hs
  obtain ⟨R, hR⟩ : ∃ R, R = parseB s.data.toList := ⟨_, rfl⟩
  rw [← hR]
  unfold parseB at hR
  rw [length_data] at hR
  obtain ⟨⟨q, m, e⟩, hr⟩ : ∃ r, r = prefB s.data.toList := ⟨_, rfl⟩
  rw [← hr] at PR hR
  simp only at hR
  replace PR : ∀ w, Calls Try.prog 39 #[.string s] w fun e' w' => e' = .returned (.tuple #[sv q, .int .i64 (m : Int), .int .i64 e]) ∧ Below w.heap.size w w' := PR
  replace PR := Lib.hid PR
  clear hr
  by_cases he : e = 0
  · subst he
    rw [if_pos rfl] at hR
    by_cases hm : m < s.size
    · rw [if_pos hm] at hR
      have HR := Lib.hid hR
      have hmb : decide ((m : Int) < (s.size : Int)) = true := decide_eq_true (by omega)
      clear hR
      go_enter Try.func38, Try.ntmps38
      go_wp2_with (first
        | (go_at_call 39; refine (PR.out _).mono ?_; rintro e w2 ⟨rfl, hb2⟩; have s2 := h1.below hb2 h1.lt)
        | (refine wpList_put0 rfl _ _ rfl _ rfl _ rfl s4 ?_; intro w5 s5 p5)
        | (refine wpList_put rfl _ _ rfl _ rfl _ q rfl s2 ?_; intro w4 s4 p4)
        )
      refine bodyPost_ret (v := .tuple #[sv (fun _ => false), .int .i64 (m : Int), .int .i64 6]) (set_results3 Try.results38 _ _ _ _ _ _ rfl rfl rfl s5) rfl ⟨by rw [HR.out], ?_⟩
      exact ((hb.trans (hb2.mono hb.size)).trans (p4.below (Nat.le_refl _))).trans (p5.below (Nat.le_refl _))
    · rw [if_neg hm] at hR
      have HR := Lib.hid hR
      have hmb : decide ((m : Int) < (s.size : Int)) = false := decide_eq_false (by omega)
      clear hR
      go_enter Try.func38, Try.ntmps38
      go_wp2_with (first
        | (go_at_call 39; refine (PR.out _).mono ?_; rintro e w2 ⟨rfl, hb2⟩; have s2 := h1.below hb2 h1.lt)
        | (refine wpList_get rfl _ rfl _ rfl _ s4 ?_)
        | (refine wpList_put rfl _ _ rfl _ rfl _ q rfl s4 ?_; intro w5 s5 p5)
        | (refine wpList_put rfl _ _ rfl _ rfl _ q rfl s2 ?_; intro w4 s4 p4)
        )
      refine bodyPost_ret (v := .tuple #[sv q, .int .i64 0, .int .i64 0]) (set_results3 Try.results38 _ _ _ _ _ _ rfl rfl rfl s5) rfl ⟨by rw [HR.out]; rfl, ?_⟩
      exact ((hb.trans (hb2.mono hb.size)).trans (p4.below (Nat.le_refl _))).trans (p5.below (Nat.le_refl _))
  · rw [if_neg he] at hR
    have HR := Lib.hid hR
    have heb : (e != 0) = true := by simp [he]
    clear hR he
    go_enter Try.func38, Try.ntmps38
    go_wp2_with (first
      | (go_at_call 39; refine (PR.out _).mono ?_; rintro e w2 ⟨rfl, hb2⟩; have s2 := h1.below hb2 h1.lt)
      | (refine wpList_put0 rfl _ _ rfl _ rfl _ rfl s4 ?_; intro w5 s5 p5)
      | (refine wpList_put rfl _ _ rfl _ rfl _ q rfl s2 ?_; intro w4 s4 p4)
      )
    refine bodyPost_ret (v := .tuple #[sv (fun _ => false), .int .i64 (m : Int), .int .i64 e]) (set_results3 Try.results38 _ _ _ _ _ _ rfl rfl rfl s5) rfl ⟨by rw [HR.out], ?_⟩
    exact ((hb.trans (hb2.mono hb.size)).trans (p4.below (Nat.le_refl _))).trans (p5.below (Nat.le_refl _))
end Go.Proofs.Ytedbhjladpfafaa
