/- Layer 3: the reference's Add and Drop; Range, Of; Add, Drop. -/
import Derived.Test.YtedbhjladpfafaaC
namespace Go.Proofs.Ytedbhjladpfafaa
open Go.RowKit
/-- One word of a set is written. -/
theorem SA.word {W : World} {B : Nat} {p q : Nat → Bool} (h : SA W B p) (j : Nat) (hj : j < 4) (hq : ∀ i, i ≠ j → wd q i = wd p i) : SA (W.setCell ⟨B, j, none⟩ (.int .u64 ((wd q j : Nat) : Int))) B q := h.set j hj fun i _ hi => hq i hi
theorem put_word (W : World) (B j : Nat) (u : Value) : PutAt B W (W.setCell ⟨B, j, none⟩ u) := ⟨rfl, rfl, rfl, by simp [World.setCell], fun k hk => Below.heap_setCell _ _ _ _ hk⟩
/-- The bit of a byte, as a word whose making nobody looks into. -/
theorem bit_word (c : Nat) : ∃ m : Int, IntKind.u64.wrap ((2 : Int) ^ (c % 64)) = m ∧ (∀ p, bits .or .u64 ((wd p (c / 64) : Nat) : Int) m = ((wd (withB p c) (c / 64) : Nat) : Int)) ∧
    ∀ p, p c = true → IntKind.u64.wrap (((wd p (c / 64) : Nat) : Int) - m) = ((wd (lessB p c) (c / 64) : Nat) : Int) := by
  have hk : c % 64 < 64 := by omega
  refine ⟨((2 ^ (c % 64) : Nat) : Int), wrap_pow hk, fun p => wd_or p c, fun p hp => ?_⟩
  have h1 := wd_ge hp
  have h2 := wd_sub hp
  have h3 := wd_lt p (c / 64)
  rw [IntKind.wrap_u64]
  rw [← h2]
  clear h2
  generalize 2 ^ (c % 64) = y at *
  omega
theorem sc_set {p q : Nat → Bool} (j : Nat) (hj : j < 4) (hq : ∀ i, i ≠ j → wd q i = wd p i) : (sc p).setIfInBounds j (.int .u64 ((wd q j : Nat) : Int)) = sc q := by
  match j, hj with
  | 0, _ => unfold sc wv; rw [hq 1 (by omega), hq 2 (by omega), hq 3 (by omega)]; rfl
  | 1, _ => unfold sc wv; rw [hq 0 (by omega), hq 2 (by omega), hq 3 (by omega)]; rfl
  | 2, _ => unfold sc wv; rw [hq 0 (by omega), hq 1 (by omega), hq 3 (by omega)]; rfl
  | 3, _ => unfold sc wv; rw [hq 0 (by omega), hq 1 (by omega), hq 2 (by omega)]; rfl
theorem radd_any (p : Nat → Bool) (c : Nat) (w : World) (hc : c < 256) : Calls Try.prog 17 #[sv p, .int .u8 (c : Int)] w (SetPost w (withB p c)) := by
  obtain ⟨h1, h2, hb⟩ := two_zero w p
  obtain ⟨m, hm, hor, _⟩ := bit_word c
  have hcell := h1.cell (c / 64) (by omega)
  have hf := h1.frozen (c / 64)
  have ho := hor p
  obtain ⟨s1, s2, hb'⟩ := two_zero w (withB p c)
  have hst := sc_set (p := p) (q := withB p c) (c / 64) (by omega) (fun i hi => wd_withB_ne p c i hi)
  have hc4 : (c : Int) / 64 < 4 := by omega
  clear h1 hor h2 hb
  go_enter Try.func17, Try.ntmps17
  go_wp2_with (first
    | (refine wpList_get rfl _ rfl _ rfl _ s1 ?_)
    | (refine wpList_put rfl _ _ rfl _ rfl _ (withB p c) rfl s2 ?_; intro w3 s3 p3)
    )
  refine bodyPost_ret (v := sv (withB p c)) (set_result Try.results17 _ _ _ _ rfl s3) rfl ⟨rfl, ?_⟩
  exact hb'.trans (p3.below (by omega))
theorem rdrop_any (p : Nat → Bool) (c : Nat) (w : World) (hc : c < 256) : Calls Try.prog 19 #[sv p, .int .u8 (c : Int)] w (SetPost w (lessB p c)) := by
  obtain ⟨h1, h2, hb⟩ := two_zero w p
  obtain ⟨m, hm, _, hsub⟩ := bit_word c
  have hc4 : (c : Int) / 64 < 4 := by omega
  have H := fun w => rhas_any p c w hc
  rcases hpc : p c with _ | _
  · have e : ∀ i, i < 256 → p i = lessB p c i := fun i _ => by
      unfold lessB
      by_cases hi : i = c
      · subst hi; simp [hpc]
      · simp [hi]
    simp only [hpc] at H
    have H := Lib.hid H
    clear hsub
    go_enter Try.func19, Try.ntmps19
    go_wp2_with (first
      | (refine wpList_get rfl _ rfl _ rfl _ h1 ?_)
      | (go_at_call 15; refine (H.out _).mono ?_; rintro e w2 ⟨rfl, hb2⟩; have s1 := (h1.below hb2 h1.lt).congr e; have s2 := h2.below hb2 h2.lt; clear h1 h2)
      | (refine wpList_get rfl _ rfl _ rfl _ s1 ?_)
      | (refine wpList_put rfl _ _ rfl _ rfl _ (lessB p c) rfl s2 ?_; intro w3 s3 p3)
      )
    refine bodyPost_ret (v := sv (lessB p c)) (set_result Try.results19 _ _ _ _ rfl s3) rfl ⟨rfl, ?_⟩
    exact (hb.trans (hb2.mono hb.size)).trans (p3.below (by omega))
  · simp only [hpc] at H
    have H := Lib.hid H
    have ho := hsub p hpc
    clear hsub
    go_enter Try.func19, Try.ntmps19
    go_wp2_with (first
      | (refine wpList_get rfl _ rfl _ rfl _ h1 ?_)
      | (go_at_call 15; refine (H.out _).mono ?_; rintro e w2 ⟨rfl, hb2⟩
         have s1 := h1.below hb2 h1.lt
         have s2 := h2.below hb2 h2.lt
         have hcell := s1.cell (c / 64) (by omega)
         have hf := s1.frozen (c / 64)
         have t1 := s1.word (q := lessB p c) (c / 64) (by omega) (fun i hi => wd_lessB_ne p c i hi)
         have pw := put_word w2 w.heap.size (c / 64) (.int .u64 ((wd (lessB p c) (c / 64) : Nat) : Int))
         have t2 := pw.sa (by omega) s2
         clear h1 h2 s1 s2)
      | (refine wpList_get rfl _ rfl _ rfl _ t1 ?_)
      | (refine wpList_put rfl _ _ rfl _ rfl _ (lessB p c) rfl t2 ?_; intro w3 s3 p3)
      )
    refine bodyPost_ret (v := sv (lessB p c)) (set_result Try.results19 _ _ _ _ rfl s3) rfl ⟨rfl, ?_⟩
    exact ((hb.trans (hb2.mono hb.size)).trans (pw.below (by omega))).trans (p3.below (by omega))
end Go.Proofs.Ytedbhjladpfafaa
