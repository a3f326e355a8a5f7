/- Layer 4: Close, Open, Closed, both. -/
import Derived.Test.YtnpfdnpklopnkaaFB
namespace Go.Proofs.Ytnpfdnpklopnkaa
open Go.RowKit
attribute [local go_sem] eq4 guard4
/-- What the first k bytes of l are the same letters as. -/
def clP (l : List Nat) (k : Nat) : Nat → Bool := fun i => (l.take k).any fun b => bothP b i
theorem clP_succ {l : List Nat} {k x : Nat} (h : l[k]? = some x) (i : Nat) : (clP l k i || bothP x i) = clP l (k + 1) i := by
  unfold clP
  rw [List.take_add_one, h]
  simp
theorem clP_all (p : Nat → Bool) (k : Nat) (hk : (listB p).length ≤ k) : ∀ i, i < 256 → clP (listB p) k i = closeP p i := fun i hi => by
  unfold clP closeP
  rw [List.take_of_length_le hk, Bool.eq_iff_iff, List.any_eq_true, Bool.or_eq_true]
  constructor
  · rintro ⟨b, hb, h⟩
    have hp := (mem_listB.1 hb).2
    rcases (sameN_iff _ _).1 h with rfl | rfl
    · exact .inl hp
    · exact .inr hp
  · rintro (h | h)
    · exact ⟨i, mem_listB.2 ⟨hi, h⟩, (sameN_iff _ _).2 (.inl rfl)⟩
    · exact ⟨othN i, mem_listB.2 ⟨othN_lt hi, h⟩, (sameN_iff _ _).2 (.inr rfl)⟩
/-- All old blocks but B are as they were. -/
def KeepB (B : Nat) (w w' : World) : Prop := w.heap.size ≤ w'.heap.size ∧ ∀ k, k < w.heap.size → k ≠ B → w'.heap[k]? = w.heap[k]?
theorem KeepB.refl (B : Nat) (w : World) : KeepB B w w := ⟨Nat.le_refl _, fun _ _ _ => rfl⟩
theorem KeepB.below {B : Nat} {w w1 w2 : World} (h : KeepB B w w1) (hb : Below w1.heap.size w1 w2) : KeepB B w w2 :=
  ⟨Nat.le_trans h.1 hb.size, fun k hk hne => (hb.block k (Nat.lt_of_lt_of_le hk h.1)).trans (h.2 k hk hne)⟩
theorem KeepB.put {B : Nat} {w w1 w2 : World} (h : KeepB B w w1) (hp : PutAt B w1 w2) : KeepB B w w2 :=
  ⟨by rw [hp.size]; exact h.1, fun k hk hne => (hp.block k hne).trans (h.2 k hk hne)⟩
theorem KeepB.cell {B g o : Nat} {w w1 : World} (h : KeepB B w w1) (hg : g < w.heap.size) (hne : g ≠ B) : w1.cell? ⟨g, o, none⟩ = w.cell? ⟨g, o, none⟩ := by
  simp [World.cell?, h.2 g hg hne]
theorem SA.not_byte {W : World} {B g o : Nat} {p : Nat → Bool} {x : Int} (h : SA W B p) (hc : W.cell? ⟨g, o, none⟩ = some (.int .u8 x)) : g ≠ B := by
  rintro rfl
  rw [cell_of_row W g o _ _ _ h] at hc
  have := List.mem_of_getElem? (l := (sc p).toList) (by simpa using hc)
  simp [sc, wv] at this
theorem lst_any (p : Nat → Bool) (w : World) : Calls Try.prog 49 #[sv p] w fun e w' => ∃ v, e = .returned v ∧ BR w' v (listB p) ∧ Below w.heap.size w w' := list_any p w
set_option maxHeartbeats 400000 in
set_option maxRecDepth 100000 in
theorem close_any (p : Nat → Bool) (w : World) : Calls Try.prog 20 #[sv p] w (SetPost w (closeP p)) := by
  have g1 : SA (((w.alloc (setO p)).alloc zeros).alloc zeros) w.heap.size p := ((SA.new w p).alloc _).alloc _
  have g2 : SA (((w.alloc (setO p)).alloc zeros).alloc zeros) (w.heap.size + 1) (fun _ => false) := (SA.zero' _ _ (by simp)).alloc _
  have g3 : SA (((w.alloc (setO p)).alloc zeros).alloc zeros) (w.heap.size + 1 + 1) (fun _ => false) := SA.zero' _ _ (by simp)
  have gb : Below w.heap.size w (((w.alloc (setO p)).alloc zeros).alloc zeros) := (((Below.refl _ w).alloc (Nat.le_refl _) _).alloc (by simp) _).alloc (by simp <;> omega) _
  have LI := Lib.hid (fun w => lst_any p w)
  go_enter Try.func20, Try.ntmps20
  go_wp2_with (first
    | (refine wpList_get rfl _ rfl _ rfl _ g1 ?_)
    | (go_at_call 49; (with_reducible refine (LI.out _).mono ?_); rintro e w2 ⟨v, rfl, hv, hb2⟩
       have h1 := g2.below hb2 g2.lt
       have h2 := g3.below hb2 g3.lt
       have hb := gb.trans (hb2.mono gb.size)
       have HV := Lib.hid hv
       obtain ⟨pp, cc, rfl, hcc, _⟩ := hv
       clear hb2 g1 g2 g3 gb)
    )
  have n3 := listB_len p
  have H2 := Lib.hid h2
  have HL := Lib.hid (clP_all p)
  obtain ⟨l, hl⟩ : ∃ l, l = listB p := ⟨_, rfl⟩
  rw [← hl] at HV HL n3 hcc ⊢
  obtain ⟨n, hn⟩ : ∃ n, n = l.length := ⟨_, rfl⟩
  rw [← hn] at hcc n3 ⊢
  have HN := Lib.hid hn
  clear hn hl
  go_loopw [5, 9] (fun _ i wr => ∃ k : Nat, k ≤ n ∧ i = .int .i64 (k : Int) ∧ SA wr (w.heap.size + 1) (fun _ => false) ∧ SA wr (w.heap.size + 1 + 1) (clP l k) ∧ KeepB (w.heap.size + 1 + 1) w2 wr ∧ Below w.heap.size w wr) (fun _ i _ => n - (intOf i).toNat)
  case atStart => exact ⟨0, Nat.zero_le _, rfl, h1, h2.congr fun i _ => by simp [clP], KeepB.refl _ _, hb⟩
  case round =>
    obtain ⟨k, hk, rfl, h1, h2, hB, hb⟩ := hrel
    by_cases hlt : k < n
    · have hltb : decide ((k : Int) < (n : Int)) = true := decide_eq_true (by omega)
      have hkn : (k : Int) < (n : Int) := by omega
      obtain ⟨x, hx⟩ : ∃ x, l[k]? = some x := ⟨_, List.getElem?_eq_getElem (by rw [← HN.out]; exact hlt)⟩
      obtain ⟨g, o, c', ev, hgw, hcells⟩ := HV.out.form (by rw [← HN.out]; omega)
      have hpp : pp = some ⟨g, o, none⟩ := by cases ev; rfl
      subst hpp
      obtain ⟨hx8, hcx⟩ := hcells k x hx
      have hck := (hB.cell (o := o + k) hgw (H2.out.not_byte hcx)).trans hcx
      have HX := Lib.hid hx
      clear hcells ev hcx hx
      go_wp2
      refine wp_region_below_tail (w := wr) 4 (Nat.le_refl _) (by kernel_rfl) (by kernel_rfl) ?_
      simp only [List.take_succ_cons, List.take_zero, List.drop_succ_cons, List.drop_zero]
      repeat (first
        | go_big_quiet_skip
        | (go_big_quiet_want; (first
            | ((refine quiet_get _ rfl _ rfl _ h2 h2.lt ?_); simp only [Act.put, List.setIfInBounds_toArray, List.set_cons_succ, List.set_cons_zero]; go_big_quiet_on)
            | (go_big_quiet_op; (first
                | go_big_quiet_on
                | (refine ⟨_, fun _ _ => rfl, ?_⟩; go_big_quiet_on)
                | (apply Exists.intro; refine ⟨fun w9 hw9 => ?_, ?_⟩; (focus (first | (go_at_call 15; exact Calls.quiet_below (both_any x _ hx8) hw9 (Nat.le_refl _) (fun _ _ h => h)) | (go_at_call 50; exact Calls.quiet_below (union_any _ _ _) hw9 (Nat.le_refl _) (fun _ _ h => h)))); go_big_quiet_on))))))
      refine wpQuiet_nil ?_
      intro w4 hb4
      have s2 := h2.below hb4 h2.lt
      have s1 := h1.below hb4 h1.lt
      go_wp2_with (first
        | (refine wpList_put rfl _ _ rfl _ rfl _ (fun i => clP l k i || bothP x i) rfl s2 ?_; intro w5 s3 p3)
        )
      go_roundw
      case rel =>
        exact ⟨k + 1, by omega, by go_num, p3.sa (by omega) s1, s3.congr fun i _ => clP_succ HX.out i, (hB.below hb4).put p3, (hb.trans (hb4.mono hb.size)).trans (p3.below (by omega))⟩
      case measure => simp [intOf]; omega
    · obtain rfl : k = n := by omega
      have hltb : decide ((k : Int) < (k : Int)) = false := decide_eq_false (by omega)
      have h3 := h2.congr (HL.out k (by rw [HN.out]; exact Nat.le_refl _))
      have HB := Lib.hid hb
      clear h2 hb
      go_wp2_with (first
        | (refine wpList_get rfl _ rfl _ rfl _ h3 ?_)
        | (refine wpList_put rfl _ _ rfl _ rfl _ (closeP p) rfl h1 ?_; intro w3 s3 p3)
        )
      refine bodyPost_ret (v := sv (closeP p)) (set_result Try.results20 _ _ _ _ rfl s3) rfl ⟨rfl, ?_⟩
      exact HB.out.trans (p3.below (by omega))
theorem closed_any (p : Nat → Bool) (w : World) : Calls Try.prog 18 #[sv p] w (NumP w (.bool (eqS (closeP p) p))) := by
  have h1 := SA.new w p
  have hb : Below w.heap.size w (w.alloc (setO p)) := (Below.refl _ w).alloc (Nat.le_refl _) _
  go_enter Try.func18, Try.ntmps18
  go_wp2
  obtain ⟨W, hW⟩ : ∃ W, W = w.alloc (setO p) := ⟨_, rfl⟩
  rw [← hW] at h1 hb ⊢
  clear hW
  refine wp_region_below (w := W) (Nat.le_refl _) (by kernel_rfl) (by kernel_rfl) ?_
  repeat (first
    | go_big_quiet_skip
    | (go_big_quiet_want; (first
        | ((refine quiet_get _ rfl _ rfl _ h1 h1.lt ?_); simp only [Act.put, List.setIfInBounds_toArray, List.set_cons_succ, List.set_cons_zero]; go_big_quiet_on)
        | (go_big_quiet_op; (first
            | go_big_quiet_on
            | (refine ⟨_, fun _ _ => rfl, ?_⟩; go_big_quiet_on)
            | (apply Exists.intro; refine ⟨fun w9 hw9 => ?_, ?_⟩; (focus ((go_at_call 20; exact Calls.quiet_below (close_any _ _) hw9 (Nat.le_refl _) (fun _ _ h => h)))); go_big_quiet_on))))))
  refine wpQuiet_nil ?_
  intro w2 hb2
  go_wp2
  go_ret
  exact ⟨rfl, hb.trans (hb2.mono hb.size)⟩
theorem open_any (p : Nat → Bool) (w : World) : Calls Try.prog 22 #[sv p] w (SetPost w (openP p)) := by
  obtain ⟨h1, h2, hb⟩ := two_zero w p
  have N1 := Lib.hid (fun w => not_any p w)
  have N2 := Lib.hid (fun w => close_any (fun i => !p i) w)
  have N3 := Lib.hid (fun w => not_any (closeP fun i => !p i) w)
  go_enter Try.func22, Try.ntmps22
  go_wp2_with (first
    | (refine wpList_get rfl _ rfl _ rfl _ h1 ?_)
    | (go_at_call 51; (with_reducible refine (N1.out _).mono ?_); rintro e w2 ⟨rfl, hb2⟩)
    | (go_at_call 20; (with_reducible refine (N2.out _).mono ?_); rintro e w3 ⟨rfl, hb3⟩)
    | (go_at_call 51; (with_reducible refine (N3.out _).mono ?_); rintro e w4 ⟨rfl, hb4⟩; have B3 := (hb2.trans (hb3.mono hb2.size)); have B4 := B3.trans (hb4.mono B3.size); have s2 := h2.below B4 h2.lt)
    | (refine wpList_put rfl _ _ rfl _ rfl _ _ rfl s2 ?_; intro w5 s5 p5))
  refine bodyPost_ret (v := sv (openP p)) (set_result Try.results22 _ _ _ _ rfl (s5.congr fun i _ => by simp [closeP, openP])) rfl ⟨rfl, ?_⟩
  exact (hb.trans (B4.mono hb.size)).trans (p5.below (by omega))
end Go.Proofs.Ytnpfdnpklopnkaa
