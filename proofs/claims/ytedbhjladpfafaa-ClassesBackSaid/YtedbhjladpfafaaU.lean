/- Layer 3: readPart. -/
import Derived.Test.YtedbhjladpfafaaS
namespace Go.Proofs.Ytedbhjladpfafaa
open Go.RowKit
theorem hexB_le {l : List UInt8} {k : Nat} (h : k ≤ l.length) : (hexB l k).2.1 ≤ l.length ∧ k ≤ (hexB l k).2.1 ∧ (hexB l k).1 < 256 := by
  unfold hexB
  cases e : l[k]? with
  | none => exact ⟨h, Nat.le_refl _, show 0 < 256 by decide⟩
  | some c =>
    have h1 := (List.getElem?_eq_some_iff.1 e).1
    simp only
    split
    · exact ⟨h, Nat.le_refl _, show 0 < 256 by decide⟩
    · cases e2 : l[k + 1]? with
      | none => exact ⟨by simp only; omega, by simp only; omega, show 0 < 256 by decide⟩
      | some d =>
        have h2 := (List.getElem?_eq_some_iff.1 e2).1
        simp only
        split
        · exact ⟨by simp only; omega, by simp only; omega, show 0 < 256 by decide⟩
        · rename_i n1 n2
          refine ⟨by simp only; omega, by simp only; omega, ?_⟩
          rcases hexV_cases c with hc | ⟨x, hx, hc⟩
          · omega
          · rcases hexV_cases d with hd | ⟨y, hy, hd⟩
            · omega
            · simp only [hc, hd]; omega
theorem oneB_le {l : List UInt8} {k : Nat} (h : k ≤ l.length) : (oneB l k).2.1 ≤ l.length ∧ k ≤ (oneB l k).2.1 ∧ (oneB l k).1 < 256 := by
  have hs := skipN_le (b := 92) h
  have hk : k ≤ skipN l k 92 := by unfold skipN; split <;> omega
  unfold oneB
  cases e : l[skipN l k 92]? with
  | none => exact ⟨hs, hk, show 0 < 256 by decide⟩
  | some c =>
    have h1 := (List.getElem?_eq_some_iff.1 e).1
    simp only
    split
    · have := hexB_le (l := l) (k := skipN l k 92 + 1) (by omega)
      exact ⟨this.1, by omega, this.2.2⟩
    · split
      · exact ⟨by simp only; omega, by simp only; omega, c.toNat_lt⟩
      · exact ⟨hs, hk, show 0 < 256 by decide⟩
/-- The part that begins at k: its set, the index behind it, or of what is none, and whether there is one. -/
def partB (l : List UInt8) (k : Nat) : (Nat → Bool) × Nat × Bool :=
  if (oneB l k).2.2 then
    if skipB l (oneB l k).2.1 45 then
      if (oneB l (skipN l (oneB l k).2.1 45)).2.2 then
        if (oneB l (skipN l (oneB l k).2.1 45)).1 < (oneB l k).1 then (fun _ => false, skipN l (oneB l k).2.1 45, false)
        else (rngP (oneB l k).1 (oneB l (skipN l (oneB l k).2.1 45)).1, (oneB l (skipN l (oneB l k).2.1 45)).2.1, true)
      else (fun _ => false, (oneB l (skipN l (oneB l k).2.1 45)).2.1, false)
    else (ofL [(oneB l k).1], (oneB l k).2.1, true)
  else (fun _ => false, (oneB l k).2.1, false)
def PaPost (w : World) (r : (Nat → Bool) × Nat × Bool) (e : Ending) (w' : World) : Prop := e = .returned (.tuple #[sv r.1, .int .i64 (r.2.1 : Int), .bool r.2.2]) ∧ Below w.heap.size w w'
set_option maxHeartbeats 400000 in
set_option maxRecDepth 100000 in
theorem readPart_any (s : ByteArray) (k : Nat) (w : World) (hk : k ≤ s.size) (hs : s.size ≤ 1000000000) :
    Calls Try.prog 51 #[.string s, .int .i64 (k : Int)] w (PaPost w (partB s.data.toList k)) := by
  obtain ⟨h1, hb⟩ := one_zero w
  have RB := fun w => readByte_any s k w hk hs
  have hle := oneB_le (l := s.data.toList) (k := k) (by rw [length_data]; exact hk)
  rw [length_data] at hle
  obtain ⟨R, hR⟩ : ∃ R, R = partB s.data.toList k := ⟨_, rfl⟩
  rw [← hR]
  unfold partB at hR
  obtain ⟨⟨lo, m, ok⟩, hr⟩ : ∃ r, r = oneB s.data.toList k := ⟨_, rfl⟩
  rw [← hr] at RB hle hR
  simp only [ByteVal] at RB hle hR
  cases ok with
  | false =>
    rw [if_neg (by simp)] at hR
    have HR := Lib.hid hR
    replace RB := Lib.hid RB
    clear hR hr
    go_enter Try.func51, Try.ntmps51
    go_wp2_with (first
      | (go_at_call 54; refine (RB.out _).mono ?_; rintro e w2 ⟨rfl, rfl⟩)
      | (refine wpList_put0 rfl _ _ rfl _ rfl _ rfl h1 ?_; intro w3 s3 p3))
    refine bodyPost_ret (v := .tuple #[sv (fun _ => false), .int .i64 (m : Int), .bool false]) (set_results3 Try.results51 _ _ _ _ _ _ rfl rfl rfl s3) rfl ⟨by rw [HR.out], ?_⟩
    exact hb.trans (p3.below (Nat.le_refl _))
  | true =>
    rw [if_pos rfl] at hR
    have SK := fun w => skip_any s m 45 w (by omega)
    have hsl := skipN_le (l := s.data.toList) (k := m) (b := 45) (by rw [length_data]; exact hle.1)
    rw [length_data] at hsl
    obtain ⟨n, hn⟩ : ∃ n, n = skipN s.data.toList m 45 := ⟨_, rfl⟩
    rw [← hn] at SK hR hsl
    rcases hsk : skipB s.data.toList m 45 with _ | _
    · rw [hsk] at hR
      simp only [hsk] at SK
      rw [if_neg (by simp)] at hR
      have HR := Lib.hid hR
      replace RB := Lib.hid RB
      replace SK := Lib.hid SK
      have OF := of_any _ [lo] _ (BR.one (w.alloc zeros) lo hle.2.2) (by simp)
      rw [World.size_alloc] at OF
      replace OF := Lib.hid OF
      clear hR hr hn hsk
      go_enter Try.func51, Try.ntmps51
      go_wp2_with (first
        | (go_at_call 54; refine (RB.out _).mono ?_; rintro e w2 ⟨rfl, rfl⟩)
        | (go_at_call 50; refine (SK.out _).mono ?_; rintro e w2 ⟨rfl, rfl⟩)
        | (go_at_call 10; refine OF.out.mono ?_; rintro e w2 ⟨rfl, hb2⟩; have s2 := (h1.alloc _).below hb2 (h1.alloc _).lt)
        | (refine wpList_put rfl _ _ rfl _ rfl _ (ofL [lo]) rfl s2 ?_; intro w3 s3 p3)
        )
      refine bodyPost_ret (v := .tuple #[sv (ofL [lo]), .int .i64 (m : Int), .bool true]) (set_results3 Try.results51 _ _ _ _ _ _ rfl rfl rfl s3) rfl ⟨by rw [HR.out], ?_⟩
      have b1 := hb.alloc hb.size (.cells #[.int .u8 (lo : Int)] 5)
      exact (b1.trans (hb2.mono b1.size)).trans (p3.below (Nat.le_refl _))
    · rw [hsk] at hR
      simp only [hsk] at SK
      rw [if_pos rfl] at hR
      have RB2 := fun w => readByte_any s n w hsl hs
      have hle2 := oneB_le (l := s.data.toList) (k := n) (by rw [length_data]; exact hsl)
      rw [length_data] at hle2
      obtain ⟨⟨up, m2, ok2⟩, hr2⟩ : ∃ r, r = oneB s.data.toList n := ⟨_, rfl⟩
      rw [← hr2] at RB2 hle2 hR
      simp only [ByteVal] at RB2 hle2 hR
      replace RB := Lib.hid RB
      replace SK := Lib.hid SK
      replace RB2 := Lib.hid RB2
      cases ok2 with
      | false =>
        rw [if_neg (by simp)] at hR
        have HR := Lib.hid hR
        clear hR hr hr2 hn hsk
        go_enter Try.func51, Try.ntmps51
        go_wp2_with (first
          | (go_at_call 54; (first | ((with_reducible refine (RB.out _).mono ?_); rintro e w2 ⟨rfl, rfl⟩) | ((with_reducible refine (RB2.out _).mono ?_); rintro e w2 ⟨rfl, rfl⟩)))
          | (go_at_call 50; refine (SK.out _).mono ?_; rintro e w2 ⟨rfl, rfl⟩)
          | (refine wpList_put0 rfl _ _ rfl _ rfl _ rfl h1 ?_; intro w3 s3 p3))
        refine bodyPost_ret (v := .tuple #[sv (fun _ => false), .int .i64 (m2 : Int), .bool false]) (set_results3 Try.results51 _ _ _ _ _ _ rfl rfl rfl s3) rfl ⟨by rw [HR.out], ?_⟩
        exact hb.trans (p3.below (Nat.le_refl _))
      | true =>
        rw [if_pos rfl] at hR
        have RG := fun w => range_any (lo : Int) (up : Int) w
        have c1 : IntKind.i64.wrap (lo : Int) = lo := IntWalk.i64_in _ (by omega)
        have c2 : IntKind.i64.wrap (up : Int) = up := IntWalk.i64_in _ (by omega)
        by_cases hlu : up < lo
        · rw [if_pos hlu] at hR
          have HR := Lib.hid hR
          have hE : rngE (lo : Int) (up : Int) = 7 := by unfold rngE rngOk; rw [if_neg]; simp; omega
          replace RG := fun w => (RG w).mono (R' := fun e w' => e = .returned (.tuple #[sv (rngP (lo : Int) (up : Int)), .int .i64 7]) ∧ Below w.heap.size w w') (fun e w' h => by rw [← hE]; exact h)
          replace RG := Lib.hid RG
          clear hR hr hr2 hn hsk hE
          go_enter Try.func51, Try.ntmps51
          go_wp2_with (first
            | (go_at_call 54; (first | ((with_reducible refine (RB.out _).mono ?_); rintro e w2 ⟨rfl, rfl⟩) | ((with_reducible refine (RB2.out _).mono ?_); rintro e w2 ⟨rfl, rfl⟩)))
            | (go_at_call 50; refine (SK.out _).mono ?_; rintro e w2 ⟨rfl, rfl⟩)
            | (go_at_call 11; refine (RG.out _).mono ?_; rintro e w2 ⟨rfl, hb2⟩; have s2 := h1.below hb2 h1.lt)
            | (refine wpList_put0 rfl _ _ rfl _ rfl _ rfl s4 ?_; intro w3 s3 p3)
            | (refine wpList_put rfl _ _ rfl _ rfl _ (rngP (lo : Int) (up : Int)) rfl s2 ?_; intro w4 s4 p4)
            )
          refine bodyPost_ret (v := .tuple #[sv (fun _ => false), .int .i64 (n : Int), .bool false]) (set_results3 Try.results51 _ _ _ _ _ _ rfl rfl rfl s3) rfl ⟨by rw [HR.out], ?_⟩
          exact ((hb.trans (hb2.mono hb.size)).trans (p4.below (Nat.le_refl _))).trans (p3.below (Nat.le_refl _))
        · rw [if_neg hlu] at hR
          have HR := Lib.hid hR
          have hE : rngE (lo : Int) (up : Int) = 0 := by unfold rngE rngOk; rw [if_pos]; simp; omega
          replace RG := fun w => (RG w).mono (R' := fun e w' => e = .returned (.tuple #[sv (rngP (lo : Int) (up : Int)), .int .i64 0]) ∧ Below w.heap.size w w') (fun e w' h => by rw [← hE]; exact h)
          replace RG := Lib.hid RG
          clear hR hr hr2 hn hsk hE
          go_enter Try.func51, Try.ntmps51
          go_wp2_with (first
            | (go_at_call 54; (first | ((with_reducible refine (RB.out _).mono ?_); rintro e w2 ⟨rfl, rfl⟩) | ((with_reducible refine (RB2.out _).mono ?_); rintro e w2 ⟨rfl, rfl⟩)))
            | (go_at_call 50; refine (SK.out _).mono ?_; rintro e w2 ⟨rfl, rfl⟩)
            | (go_at_call 11; refine (RG.out _).mono ?_; rintro e w2 ⟨rfl, hb2⟩; have s2 := h1.below hb2 h1.lt)
            | (refine wpList_get rfl _ rfl _ rfl _ s4 ?_)
            | (refine wpList_put rfl _ _ rfl _ rfl _ (rngP (lo : Int) (up : Int)) rfl s4 ?_; intro w3 s3 p3)
            | (refine wpList_put rfl _ _ rfl _ rfl _ (rngP (lo : Int) (up : Int)) rfl s2 ?_; intro w4 s4 p4)
            )
          refine bodyPost_ret (v := .tuple #[sv (rngP (lo : Int) (up : Int)), .int .i64 (m2 : Int), .bool true]) (set_results3 Try.results51 _ _ _ _ _ _ rfl rfl rfl s3) rfl ⟨by rw [HR.out], ?_⟩
          exact ((hb.trans (hb2.mono hb.size)).trans (p4.below (Nat.le_refl _))).trans (p3.below (Nat.le_refl _))
end Go.Proofs.Ytedbhjladpfafaa
