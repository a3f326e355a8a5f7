/- MasksBlind. -/
import Derived.Test.YtjckkohmgalabaaZu
namespace Go.Proofs.Ytjckkohmgalabaa
open Go.RowKit
attribute [local go_sem] eq5 guard5
theorem ckF_mask {m : Nat} (h : isM m) (f : Int → Int) (rm : Int) (l : List Int) : ckF m f rm l = ckF 0 f rm l := by unfold ckF; rw [if_pos h, if_pos (show isM 0 from Or.inl rfl)]
theorem rowE_mask {m : Nat} (h : isM m) (n t : Nat) (st x y k : Int) : rowE n t m st x y k = rowE n t 0 st x y k := by unfold rowE ckR; rw [if_pos h, if_pos (show isM 0 from Or.inl rfl)]
theorem of_same (c : Nat) (hc : c < 2 ^ 64) (w : World) : Calls Try.prog 10 #[.int .u64 (c : Int)] w fun e w' => e = .returned (.int .u64 (ofM c : Int)) ∧ w' = w := (rof_any c w hc).mono fun _ _ ⟨a, b⟩ => ⟨a, b.symm⟩
section
variable {w0 W : World} {X : Nat → Prop} {N pa pb : Nat} {ta tb : List (Nat × Nat)}
theorem tw_events (h : Tw w0 W X N pa pb ta tb) : Calls Try.prog 29 #[.pointer (some ⟨pa, 0, none⟩)] W (EvPost W ta) := by
  obtain ⟨⟨Fa, Fb, ca, cb, l1, l2, h1, h2, ⟨_, _, _, _, a1⟩, a2⟩, hbel, hx⟩ := h
  exact events_any a1
theorem tw_long (h : Tw w0 W X N pa pb ta tb) : ta.length ≤ 8388608 := by
  obtain ⟨⟨Fa, Fb, ca, cb, l1, l2, h1, h2, ⟨_, _, _, _, a1⟩, a2⟩, hbel, hx⟩ := h
  exact a1.long
end
/-- The five calls, whatever the mask and the cells. -/
structure Five (N : Nat) (m : Nat) (x y k : Int) (E1 E2 E3 E4 E5 : Int) (T0 T1 T2 T3 T4 T5 : List (Nat × Nat)) : Prop where
  c1 : ∀ w0 W X p q tb, Tw w0 W X N p q T0 tb → Calls Try.prog 23 #[.pointer (some ⟨p, 0, none⟩), .int .u64 (m : Int), .int .i64 x, .int .i64 y] W (TwP2 w0 W X N p q T1 tb E1)
  c2 : ∀ w0 W X p q tb, Tw w0 W X N p q T1 tb → Calls Try.prog 24 #[.pointer (some ⟨p, 0, none⟩), .int .u64 (m : Int), .int .i64 x, .int .i64 y] W (TwP2 w0 W X N p q T2 tb E2)
  c3 : ∀ w0 W X p q tb, Tw w0 W X N p q T2 tb → Calls Try.prog 25 #[.pointer (some ⟨p, 0, none⟩), .int .u64 (m : Int), .int .i64 x] W (TwP2 w0 W X N p q T3 tb E3)
  c4 : ∀ w0 W X p q tb, Tw w0 W X N p q T3 tb → Calls Try.prog 26 #[.pointer (some ⟨p, 0, none⟩), .int .u64 (m : Int), .int .i64 x, .int .i64 y, .int .i64 k] W (TwP2 w0 W X N p q T4 tb E4)
  c5 : ∀ w0 W X p q tb, Tw w0 W X N p q T4 tb → Calls Try.prog 27 #[.pointer (some ⟨p, 0, none⟩), .int .u64 (m : Int), .int .i64 x, .int .i64 y, .int .i64 k] W (TwP2 w0 W X N p q T5 tb E5)
theorem five_all (N : Nat) (x y k : Int) (hx : i64R x) (hy : i64R y) (hk : i64R k) (T0 : List (Nat × Nat)) : ∃ E1 E2 E3 E4 E5 T1 T2 T3 T4 T5, ∀ m, isM m → Five N m x y k E1 E2 E3 E4 E5 T0 T1 T2 T3 T4 T5 := by
  obtain ⟨E1, h1⟩ : ∃ E, E = swE N T0.length 0 x y := ⟨_, rfl⟩
  obtain ⟨T1, t1⟩ : ∃ T, T = if E1 = 0 then T0 ++ swT x.toNat y.toNat else T0 := ⟨_, rfl⟩
  obtain ⟨E2, h2⟩ : ∃ E, E = mvE N T1.length 0 x y := ⟨_, rfl⟩
  obtain ⟨T2, t2⟩ : ∃ T, T = if E2 = 0 then T1 ++ mvT x.toNat y.toNat else T1 := ⟨_, rfl⟩
  obtain ⟨E3, h3⟩ : ∃ E, E = clE N T2.length 0 x := ⟨_, rfl⟩
  obtain ⟨T3, t3⟩ : ∃ T, T = if E3 = 0 then T2 ++ clT x.toNat else T2 := ⟨_, rfl⟩
  obtain ⟨E4, h4⟩ : ∃ E, E = rowE N T3.length 0 4 x y k := ⟨_, rfl⟩
  obtain ⟨T4, t4⟩ : ∃ T, T = if E4 = 0 then T3 ++ swRT x.toNat y.toNat k.toNat else T3 := ⟨_, rfl⟩
  obtain ⟨E5, h5⟩ : ∃ E, E = rowE N T4.length 0 3 x y k := ⟨_, rfl⟩
  obtain ⟨T5, t5⟩ : ∃ T, T = if E5 = 0 then T4 ++ mvRT x.toNat y.toNat k.toNat else T4 := ⟨_, rfl⟩
  refine ⟨E1, E2, E3, E4, E5, T1, T2, T3, T4, T5, fun m hm => ⟨?_, ?_, ?_, ?_, ?_⟩⟩
  · intro w0 W X p q tb h
    have := tw_act h (f := 23) (args := #[.pointer (some ⟨p, 0, none⟩), .int .u64 (m : Int), .int .i64 x, .int .i64 y]) (E := E1) (t' := swT x.toNat y.toNat) fun F ca hl ar => ⟨swC m x.toNat y.toNat ca, by rw [swC_len]; exact hl, by
      have := Swap_any ar m x y (isM_lt hm) hx hy
      rw [hl, show swE N T0.length m x y = E1 from (ckF_mask hm _ _ _).trans h1.symm] at this
      exact this⟩
    rw [← t1] at this
    exact this
  · intro w0 W X p q tb h
    have := tw_act h (f := 24) (args := #[.pointer (some ⟨p, 0, none⟩), .int .u64 (m : Int), .int .i64 x, .int .i64 y]) (E := E2) (t' := mvT x.toNat y.toNat) fun F ca hl ar => ⟨mvC m x.toNat y.toNat ca, by rw [mvC_len]; exact hl, by
      have := Move_any ar m x y (isM_lt hm) hx hy
      rw [hl, show mvE N T1.length m x y = E2 from (ckF_mask hm _ _ _).trans h2.symm] at this
      exact this⟩
    rw [← t2] at this
    exact this
  · intro w0 W X p q tb h
    have := tw_act h (f := 25) (args := #[.pointer (some ⟨p, 0, none⟩), .int .u64 (m : Int), .int .i64 x]) (E := E3) (t' := clT x.toNat) fun F ca hl ar => ⟨clC m x.toNat ca, by rw [clC_len]; exact hl, by
      have := Clear_any ar m x (isM_lt hm) hx
      rw [hl, show clE N T2.length m x = E3 from (ckF_mask hm _ _ _).trans h3.symm] at this
      exact this⟩
    rw [← t3] at this
    exact this
  · intro w0 W X p q tb h
    have := tw_act h (f := 26) (args := #[.pointer (some ⟨p, 0, none⟩), .int .u64 (m : Int), .int .i64 x, .int .i64 y, .int .i64 k]) (E := E4) (t' := swRT x.toNat y.toNat k.toNat) fun F ca hl ar => ⟨swRC m x.toNat y.toNat ca k.toNat, by rw [swRC_len]; exact hl, by
      have := SwapRows_any ar m x y k (isM_lt hm) hx hy hk
      rw [hl, show rowE N T3.length m 4 x y k = E4 from (rowE_mask hm _ _ _ _ _ _).trans h4.symm] at this
      exact this⟩
    rw [← t4] at this
    exact this
  · intro w0 W X p q tb h
    have := tw_act h (f := 27) (args := #[.pointer (some ⟨p, 0, none⟩), .int .u64 (m : Int), .int .i64 x, .int .i64 y, .int .i64 k]) (E := E5) (t' := mvRT x.toNat y.toNat k.toNat) fun F ca hl ar => ⟨mvRC m x.toNat y.toNat ca k.toNat, by rw [mvRC_len]; exact hl, by
      have := MoveRows_any ar m x y k (isM_lt hm) hx hy hk
      rw [hl, show rowE N T4.length m 3 x y k = E5 from (rowE_mask hm _ _ _ _ _ _).trans h5.symm] at this
      exact this⟩
    rw [← t5] at this
    exact this
end Go.Proofs.Ytjckkohmgalabaa
