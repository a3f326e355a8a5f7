/- Layer 4: the reference's Close, Closed, Open; the law on sets. -/
import Derived.Test.YtnpfdnpklopnkaaFJ
namespace Go.Proofs.Ytnpfdnpklopnkaa
open Go.RowKit
attribute [local go_sem] eq4 guard4
def clQ (p : Nat → Bool) (l : List Nat) (k : Nat) : Nat → Bool := fun i => p i || clP l k i
theorem clQ_succ {p : Nat → Bool} {l : List Nat} {k x : Nat} (h : l[k]? = some x) (i : Nat) : (clQ p l k i || bothP x i) = clQ p l (k + 1) i := by
  unfold clQ; rw [← clP_succ h, Bool.or_assoc]
theorem clQ_all (p : Nat → Bool) (k : Nat) (hk : (listB p).length ≤ k) : ∀ i, i < 256 → clQ p (listB p) k i = closeP p i := fun i hi => by
  unfold clQ; rw [clP_all p k hk i hi]; unfold closeP; cases p i <;> rfl
theorem rlst_any (p : Nat → Bool) (w : World) : Calls Try.prog 42 #[sv p] w fun e w' => ∃ v, e = .returned v ∧ BR w' v (listB p) ∧ Below w.heap.size w w' := rlist_any p w
theorem run_any (p q : Nat → Bool) (w : World) : Calls Try.prog 39 #[sv p, sv q] w (SetPost w (fun i => p i || q i)) := runion_any p q w
set_option maxHeartbeats 400000 in
set_option maxRecDepth 100000 in
theorem rclose_any (p : Nat → Bool) (w : World) : Calls Try.prog 21 #[sv p] w (SetPost w (closeP p)) := by
  have k1 : SA ((w.alloc (setO p)).alloc zeros) w.heap.size p := (SA.new w p).alloc _
  have a0 : SA (((w.alloc (setO p)).alloc zeros).alloc zeros) w.heap.size p := k1.alloc _
  have a1 : SA (((w.alloc (setO p)).alloc zeros).alloc zeros) (w.heap.size + 1) (fun _ => false) := (SA.zero' _ _ (by simp)).alloc _
  have z1 : SA (((w.alloc (setO p)).alloc zeros).alloc zeros) (w.heap.size + 1 + 1) (fun _ => false) := SA.zero' _ _ (by simp)
  have ab : Below w.heap.size w (((w.alloc (setO p)).alloc zeros).alloc zeros) := (((Below.refl _ w).alloc (Nat.le_refl _) _).alloc (by simp) _).alloc (by simp <;> omega) _
  have LI := Lib.hid (fun w => rlst_any p w)
  go_enter Try.func21, Try.ntmps21
  go_wp2_with (first
    | (refine wpList_get rfl _ rfl _ rfl _ k1 ?_)
    | (refine wpList_put rfl _ _ rfl _ rfl _ p rfl z1 ?_; (intro w1 g3 p1; have g1 := p1.sa (by omega) a0; have g2 := p1.sa (by omega) a1; have gb := ab.trans (p1.below (by omega)); clear k1 a0 a1 z1 ab p1))
    | (refine wpList_get rfl _ rfl _ rfl _ g1 ?_)
    | (go_at_call 42; (with_reducible refine (LI.out _).mono ?_); rintro e w2 ⟨v, rfl, hv, hb2⟩
       have h0 := g1.below hb2 g1.lt
       have h1 := g2.below hb2 g2.lt
       have h2 := g3.below hb2 g3.lt
       have hb := gb.trans (hb2.mono gb.size)
       have HV := Lib.hid hv
       obtain ⟨pp, cc, rfl, hcc, _⟩ := hv
       clear hb2 g1 g2 g3 gb)
    )
  have n3 := listB_len p
  have H2 := Lib.hid h2
  have HL := Lib.hid (clQ_all p)
  obtain ⟨l, hl⟩ : ∃ l, l = listB p := ⟨_, rfl⟩
  rw [← hl] at HV HL n3 hcc ⊢
  obtain ⟨n, hn⟩ : ∃ n, n = l.length := ⟨_, rfl⟩
  rw [← hn] at hcc n3 ⊢
  have HN := Lib.hid hn
  clear hn hl
  go_loopw [5] (fun i wr => ∃ k : Nat, k ≤ n ∧ i = .int .i64 (k : Int) ∧ SA wr (w.heap.size + 1) (fun _ => false) ∧ SA wr (w.heap.size + 1 + 1) (clQ p l k) ∧ KeepB (w.heap.size + 1 + 1) w2 wr ∧ Below w.heap.size w wr) (fun i _ => n - (intOf i).toNat)
  case atStart => exact ⟨0, Nat.zero_le _, rfl, h1, h2.congr fun i _ => by simp [clQ, clP], KeepB.refl _ _, hb⟩
  case round =>
    obtain ⟨k, hk, rfl, h1, h2, hB, hb⟩ := hrel
    by_cases hlt : k < n
    · have hltb : decide ((k : Int) < (n : Int)) = true := decide_eq_true (by omega)
      have hkn : (k : Int) < (n : Int) := by omega
      obtain ⟨x, hx⟩ : ∃ x, l[k]? = some x := ⟨_, List.getElem?_eq_getElem (by rw [← HN.out]; exact hlt)⟩
      obtain ⟨g, o, c', ev, hgw, hcells⟩ := HV.out.form (by rw [← HN.out]; omega)
      have hpp : pp = some ⟨g, o, none⟩ := by cases ev; rfl
      subst hpp
      obtain ⟨hx8, hcx⟩ := hcells k x hx
      have hck := (hB.cell (o := o + k) hgw (H2.out.not_byte hcx)).trans hcx
      have hgr : g < wr.heap.size := Nat.lt_of_lt_of_le hgw hB.1
      have HX := Lib.hid hx
      clear hcells ev hcx hx
      go_wp2
      refine wp_region_below_tail (w := wr) 7 (Nat.le_refl _) (by kernel_rfl) (by kernel_rfl) ?_
      simp only [List.take_succ_cons, List.take_zero, List.drop_succ_cons, List.drop_zero]
      repeat (first
        | go_big_quiet_skip
        | (go_big_quiet_want; (first
            | ((first | refine quiet_get _ rfl _ rfl _ h2 h2.lt ?_ | refine quiet_byte _ rfl _ rfl _ hck hgr ?_); simp only [Act.put, List.setIfInBounds_toArray, List.set_cons_succ, List.set_cons_zero]; go_big_quiet_on)
            | (go_big_quiet_op; (first
                | go_big_quiet_on
                | (refine ⟨_, fun _ _ => rfl, ?_⟩; go_big_quiet_on)
                | (apply Exists.intro; refine ⟨fun w9 hw9 => ?_, ?_⟩; (focus (first | (go_at_call 16; exact Calls.quiet_below (rboth_any x _ hx8) hw9 (Nat.le_refl _) (fun _ _ h => h)) | (go_at_call 39; exact Calls.quiet_below (run_any _ _ _) hw9 (Nat.le_refl _) (fun _ _ h => h)))); go_big_quiet_on))))))
      refine wpQuiet_nil ?_
      intro w4 hb4
      have s2 := h2.below hb4 h2.lt
      have s1 := h1.below hb4 h1.lt
      go_wp2_with (first
        | (refine wpList_put rfl _ _ rfl _ rfl _ (fun i => clQ p l k i || bothP x i) rfl s2 ?_; intro w5 s3 p3)
        )
      go_roundw
      case rel =>
        exact ⟨k + 1, by omega, by go_num, p3.sa (by omega) s1, s3.congr fun i _ => clQ_succ HX.out i, (hB.below hb4).put p3, (hb.trans (hb4.mono hb.size)).trans (p3.below (by omega))⟩
      case measure => simp [intOf]; omega
    · obtain rfl : k = n := by omega
      have hltb : decide ((k : Int) < (k : Int)) = false := decide_eq_false (by omega)
      have h3 := h2.congr (HL.out k (by rw [HN.out]; exact Nat.le_refl _))
      have HB := Lib.hid hb
      clear h2 hb
      go_wp2_with (first
        | (refine wpList_get rfl _ rfl _ rfl _ h3 ?_)
        | (refine wpList_put rfl _ _ rfl _ rfl _ (closeP p) rfl h1 ?_; intro w3 s3 p3)
        )
      refine bodyPost_ret (v := sv (closeP p)) (set_result Try.results21 _ _ _ _ rfl s3) rfl ⟨rfl, ?_⟩
      exact HB.out.trans (p3.below (by omega))
theorem rclosed_any (p : Nat → Bool) (w : World) : Calls Try.prog 19 #[sv p] w (NumP w (.bool (eqS (closeP p) p))) := by
  have h1 := SA.new w p
  have hb : Below w.heap.size w (w.alloc (setO p)) := (Below.refl _ w).alloc (Nat.le_refl _) _
  go_enter Try.func19, Try.ntmps19
  go_wp2
  obtain ⟨W, hW⟩ : ∃ W, W = w.alloc (setO p) := ⟨_, rfl⟩
  rw [← hW] at h1 hb ⊢
  clear hW
  refine wp_region_below (w := W) (Nat.le_refl _) (by kernel_rfl) (by kernel_rfl) ?_
  repeat (first
    | go_big_quiet_skip
    | (go_big_quiet_want; (first
        | ((refine quiet_get _ rfl _ rfl _ h1 h1.lt ?_); simp only [Act.put, List.setIfInBounds_toArray, List.set_cons_succ, List.set_cons_zero]; go_big_quiet_on)
        | (go_big_quiet_op; (first
            | go_big_quiet_on
            | (refine ⟨_, fun _ _ => rfl, ?_⟩; go_big_quiet_on)
            | (apply Exists.intro; refine ⟨fun w9 hw9 => ?_, ?_⟩; (focus ((go_at_call 21; exact Calls.quiet_below (rclose_any _ _) hw9 (Nat.le_refl _) (fun _ _ h => h)))); go_big_quiet_on))))))
  refine wpQuiet_nil ?_
  intro w2 hb2
  go_wp2
  go_ret
  exact ⟨rfl, hb.trans (hb2.mono hb.size)⟩
/-- What is left of p behind the first k bytes of l. -/
def opQ (p : Nat → Bool) (l : List Nat) (k : Nat) : Nat → Bool := fun i => p i && !((l.take k).any fun b => b == i && !subB (bothP b) p)
theorem subB_iff {p q : Nat → Bool} : subB p q = true ↔ ∀ i, i < 256 → p i = true → q i = true := by
  unfold subB
  rw [eqS_iff]
  refine forall_congr' fun i => forall_congr' fun _ => ?_
  cases p i <;> cases q i <;> simp
theorem opQ_drop {p : Nat → Bool} {l : List Nat} {k x : Nat} (h : l[k]? = some x) (hs : subB (bothP x) p = false) (i : Nat) : lessB (opQ p l k) x i = opQ p l (k + 1) i := by
  unfold lessB opQ
  rw [List.take_add_one, h]
  by_cases e : i = x
  · subst e; simp [hs]
  · have : (x == i) = false := by simp; exact fun h => e h.symm
    simp [e, this]
theorem opQ_keep {p : Nat → Bool} {l : List Nat} {k x : Nat} (h : l[k]? = some x) (hs : subB (bothP x) p = true) (i : Nat) : opQ p l k i = opQ p l (k + 1) i := by
  unfold opQ
  rw [List.take_add_one, h]
  simp [hs]
theorem opQ_all (p : Nat → Bool) (k : Nat) (hk : (listB p).length ≤ k) : ∀ i, i < 256 → opQ p (listB p) k i = openP p i := fun i hi => by
  unfold opQ openP
  rw [List.take_of_length_le hk]
  cases hp : p i
  · rfl
  · rw [Bool.true_and, Bool.true_and, Bool.eq_iff_iff, Bool.not_eq_true', List.any_eq_false]
    constructor
    · intro h
      have h1 := h i (mem_listB.2 ⟨hi, hp⟩)
      simp only [beq_self_eq_true, Bool.true_and, Bool.not_eq_true', Bool.not_eq_false] at h1
      exact subB_iff.1 h1 (othN i) (othN_lt hi) ((sameN_iff _ _).2 (.inr (oth_oth i).symm))
    · intro h b hb
      by_cases e : b = i
      · subst e
        have : subB (bothP b) p = true := subB_iff.2 fun j hj hjb => by
          rcases (sameN_iff _ _).1 hjb with rfl | rfl
          · exact hp
          · rwa [oth_oth] at h
        simp [this]
      · simp [e]
set_option maxHeartbeats 800000 in
set_option maxRecDepth 100000 in
theorem ropen_any (p : Nat → Bool) (w : World) : Calls Try.prog 23 #[sv p] w (SetPost w (openP p)) := by
  have k1 : SA ((w.alloc (setO p)).alloc zeros) w.heap.size p := (SA.new w p).alloc _
  have a0 : SA (((w.alloc (setO p)).alloc zeros).alloc zeros) w.heap.size p := k1.alloc _
  have a1 : SA (((w.alloc (setO p)).alloc zeros).alloc zeros) (w.heap.size + 1) (fun _ => false) := (SA.zero' _ _ (by simp)).alloc _
  have z1 : SA (((w.alloc (setO p)).alloc zeros).alloc zeros) (w.heap.size + 1 + 1) (fun _ => false) := SA.zero' _ _ (by simp)
  have ab : Below w.heap.size w (((w.alloc (setO p)).alloc zeros).alloc zeros) := (((Below.refl _ w).alloc (Nat.le_refl _) _).alloc (by simp) _).alloc (by simp <;> omega) _
  have LI := Lib.hid (fun w => rlst_any p w)
  go_enter Try.func23, Try.ntmps23
  go_wp2_with (first
    | (refine wpList_get rfl _ rfl _ rfl _ k1 ?_)
    | (refine wpList_put rfl _ _ rfl _ rfl _ p rfl z1 ?_; (intro w1 g3 p1; have g1 := p1.sa (by omega) a0; have g2 := p1.sa (by omega) a1; have gb := ab.trans (p1.below (by omega)); clear k1 a0 a1 z1 ab p1))
    | (refine wpList_get rfl _ rfl _ rfl _ g1 ?_)
    | (go_at_call 42; (with_reducible refine (LI.out _).mono ?_); rintro e w2 ⟨v, rfl, hv, hb2⟩
       have h0 := g1.below hb2 g1.lt
       have h1 := g2.below hb2 g2.lt
       have h2 := g3.below hb2 g3.lt
       have hb := gb.trans (hb2.mono gb.size)
       have HV := Lib.hid hv
       obtain ⟨pp, cc, rfl, hcc, _⟩ := hv
       clear hb2 g1 g2 g3 gb)
    )
  have n3 := listB_len p
  have H2 := Lib.hid h2
  have HL := Lib.hid (opQ_all p)
  obtain ⟨l, hl⟩ : ∃ l, l = listB p := ⟨_, rfl⟩
  rw [← hl] at HV HL n3 hcc ⊢
  obtain ⟨n, hn⟩ : ∃ n, n = l.length := ⟨_, rfl⟩
  rw [← hn] at hcc n3 ⊢
  have HN := Lib.hid hn
  clear hn hl
  go_loopw [5] (fun i wr => ∃ k : Nat, k ≤ n ∧ i = .int .i64 (k : Int) ∧ SA wr w.heap.size p ∧ SA wr (w.heap.size + 1) (fun _ => false) ∧ SA wr (w.heap.size + 1 + 1) (opQ p l k) ∧ KeepB (w.heap.size + 1 + 1) w2 wr ∧ Below w.heap.size w wr) (fun i _ => n - (intOf i).toNat)
  case atStart => exact ⟨0, Nat.zero_le _, rfl, h0, h1, h2.congr fun i _ => by simp [opQ], KeepB.refl _ _, hb⟩
  case round =>
    obtain ⟨k, hk, rfl, h0, h1, h2, hB, hb⟩ := hrel
    by_cases hlt : k < n
    · have hltb : decide ((k : Int) < (n : Int)) = true := decide_eq_true (by omega)
      have hkn : (k : Int) < (n : Int) := by omega
      obtain ⟨x, hx⟩ : ∃ x, l[k]? = some x := ⟨_, List.getElem?_eq_getElem (by rw [← HN.out]; exact hlt)⟩
      obtain ⟨g, o, c', ev, hgw, hcells⟩ := HV.out.form (by rw [← HN.out]; omega)
      have hpp : pp = some ⟨g, o, none⟩ := by cases ev; rfl
      subst hpp
      obtain ⟨hx8, hcx⟩ := hcells k x hx
      have hck := (hB.cell (o := o + k) hgw (H2.out.not_byte hcx)).trans hcx
      have hgr : g < wr.heap.size := Nat.lt_of_lt_of_le hgw hB.1
      have HX := Lib.hid hx
      have SU := fun w9 (hw9 : Below wr.heap.size wr w9) => Calls.quiet_bool (rsub_any (bothP x) p w9) hw9 (Nat.le_refl _)
      clear hcells ev hcx hx
      rcases hs : subB (bothP x) p with _ | _
      · rw [hs] at SU
        replace SU := Lib.hid SU
        have HS := Lib.hid (fun i => opQ_drop HX.out hs i)
        clear hs
        go_wp2
        refine wp_region_below (w := wr) (Nat.le_refl _) (by kernel_rfl) (by kernel_rfl) ?_
        repeat (first
          | go_big_quiet_skip
          | (go_big_quiet_want; (first
              | ((first | refine quiet_get _ rfl _ rfl _ h0 h0.lt ?_ | refine quiet_byte _ rfl _ rfl _ hck hgr ?_); simp only [Act.put, List.setIfInBounds_toArray, List.set_cons_succ, List.set_cons_zero]; go_big_quiet_on)
              | (go_big_quiet_op; (first
                  | go_big_quiet_on
                  | (refine ⟨_, fun _ _ => rfl, ?_⟩; go_big_quiet_on)
                  | (apply Exists.intro; refine ⟨fun w9 hw9 => ?_, ?_⟩; (focus (first | (go_at_call 16; exact Calls.quiet_below (rboth_any x _ hx8) hw9 (Nat.le_refl _) (fun _ _ h => h)) | (go_at_call 40; exact SU.out _ hw9))); go_big_quiet_on))))))
        refine wpQuiet_nil ?_
        intro w4 hb4
        have t2 := h2.below hb4 h2.lt
        have t1 := h1.below hb4 h1.lt
        have t0 := h0.below hb4 h0.lt
        have hck4 := (hb4.cell (p := ⟨g, o + k, none⟩) hgr).trans hck
        have hgr4 : g < w4.heap.size := Nat.lt_of_lt_of_le hgr hb4.size
        have hB4 := hB.below hb4
        have b4 := hb.trans (hb4.mono hb.size)
        clear SU h0 h1 h2 hck hgr hB hb hb4
        go_wp2
        refine wp_region_below_tail (w := w4) 6 (Nat.le_refl _) (by kernel_rfl) (by kernel_rfl) ?_
        simp only [List.take_succ_cons, List.take_zero, List.drop_succ_cons, List.drop_zero]
        repeat (first
          | go_big_quiet_skip
          | (go_big_quiet_want; (first
              | ((first | refine quiet_get _ rfl _ rfl _ t2 t2.lt ?_ | refine quiet_byte _ rfl _ rfl _ hck4 hgr4 ?_); simp only [Act.put, List.setIfInBounds_toArray, List.set_cons_succ, List.set_cons_zero]; go_big_quiet_on)
              | (go_big_quiet_op; (first
                  | go_big_quiet_on
                  | (refine ⟨_, fun _ _ => rfl, ?_⟩; go_big_quiet_on)
                  | (apply Exists.intro; refine ⟨fun w9 hw9 => ?_, ?_⟩; (focus ((go_at_call 52; exact Calls.quiet_below (rdrop_any _ x _ hx8) hw9 (Nat.le_refl _) (fun _ _ h => h)))); go_big_quiet_on))))))
        refine wpQuiet_nil ?_
        intro w6 hb6
        have s2 := t2.below hb6 t2.lt
        have s1 := t1.below hb6 t1.lt
        have s0 := t0.below hb6 t0.lt
        go_wp2_with (first
          | (refine wpList_put rfl _ _ rfl _ rfl _ (lessB (opQ p l k) x) rfl s2 ?_; intro w5 s3 p3)
          )
        go_roundw
        case rel =>
          exact ⟨k + 1, by omega, by go_num, p3.sa (by omega) s0, p3.sa (by omega) s1, s3.congr fun i _ => HS.out i, (hB4.below hb6).put p3, (b4.trans (hb6.mono b4.size)).trans (p3.below (by omega))⟩
        case measure => simp [intOf]; omega
      · rw [hs] at SU
        replace SU := Lib.hid SU
        have HS := Lib.hid (fun i => opQ_keep HX.out hs i)
        clear hs
        go_wp2
        refine wp_region_below (w := wr) (Nat.le_refl _) (by kernel_rfl) (by kernel_rfl) ?_
        repeat (first
          | go_big_quiet_skip
          | (go_big_quiet_want; (first
              | ((first | refine quiet_get _ rfl _ rfl _ h0 h0.lt ?_ | refine quiet_byte _ rfl _ rfl _ hck hgr ?_); simp only [Act.put, List.setIfInBounds_toArray, List.set_cons_succ, List.set_cons_zero]; go_big_quiet_on)
              | (go_big_quiet_op; (first
                  | go_big_quiet_on
                  | (refine ⟨_, fun _ _ => rfl, ?_⟩; go_big_quiet_on)
                  | (apply Exists.intro; refine ⟨fun w9 hw9 => ?_, ?_⟩; (focus (first | (go_at_call 16; exact Calls.quiet_below (rboth_any x _ hx8) hw9 (Nat.le_refl _) (fun _ _ h => h)) | (go_at_call 40; exact SU.out _ hw9))); go_big_quiet_on))))))
        refine wpQuiet_nil ?_
        intro w4 hb4
        go_wp2
        go_roundw
        case rel =>
          exact ⟨k + 1, by omega, by go_num, h0.below hb4 h0.lt, h1.below hb4 h1.lt, (h2.below hb4 h2.lt).congr fun i _ => HS.out i, hB.below hb4, hb.trans (hb4.mono hb.size)⟩
        case measure => simp [intOf]; omega
    · obtain rfl : k = n := by omega
      have hltb : decide ((k : Int) < (k : Int)) = false := decide_eq_false (by omega)
      have h3 := h2.congr (HL.out k (by rw [HN.out]; exact Nat.le_refl _))
      have HB := Lib.hid hb
      clear h2 hb
      go_wp2_with (first
        | (refine wpList_get rfl _ rfl _ rfl _ h3 ?_)
        | (refine wpList_put rfl _ _ rfl _ rfl _ (openP p) rfl h1 ?_; intro w3 s3 p3)
        )
      refine bodyPost_ret (v := sv (openP p)) (set_result Try.results23 _ _ _ _ rfl s3) rfl ⟨rfl, ?_⟩
      exact HB.out.trans (p3.below (by omega))
set_option maxHeartbeats 800000 in
set_option maxRecDepth 100000 in
theorem fsets_any (p : Nat → Bool) (w : World) : Calls Try.prog 4 #[sv p] w fun e w' => e = .returned (.bool true) ∧ Below w.heap.size w w' := by
  have h1 := SA.new w p
  have hb : Below w.heap.size w (w.alloc (setO p)) := (Below.refl _ w).alloc (Nat.le_refl _) _
  have e1 := eqS_self (closeP p)
  have e2 := eqS_self (openP p)
  go_enter Try.func4, Try.ntmps4
  go_wp2
  obtain ⟨W, hW⟩ : ∃ W, W = w.alloc (setO p) := ⟨_, rfl⟩
  rw [← hW] at h1 hb ⊢
  clear hW
  refine wp_region_below (w := W) (Nat.le_refl _) (by kernel_rfl) (by kernel_rfl) ?_
  repeat (first
    | go_big_quiet_skip
    | (go_big_quiet_want; (first
        | ((refine quiet_get _ rfl _ rfl _ h1 h1.lt ?_); simp only [Act.put, List.setIfInBounds_toArray, List.set_cons_succ, List.set_cons_zero]; go_big_quiet_on)
        | (go_big_quiet_op; (first
            | go_big_quiet_on
            | (refine ⟨_, fun _ _ => rfl, ?_⟩; go_big_quiet_on)
            | (apply Exists.intro; refine ⟨fun w9 hw9 => ?_, ?_⟩; (focus (first | (go_at_call 18; exact Calls.quiet_below (closed_any _ _) hw9 (Nat.le_refl _) (fun _ _ h => h)) | (go_at_call 19; exact Calls.quiet_below (rclosed_any _ _) hw9 (Nat.le_refl _) (fun _ _ h => h)) | (go_at_call 20; exact Calls.quiet_below (close_any _ _) hw9 (Nat.le_refl _) (fun _ _ h => h)) | (go_at_call 21; exact Calls.quiet_below (rclose_any _ _) hw9 (Nat.le_refl _) (fun _ _ h => h)) | (go_at_call 22; exact Calls.quiet_below (open_any _ _) hw9 (Nat.le_refl _) (fun _ _ h => h)) | (go_at_call 23; exact Calls.quiet_below (ropen_any _ _) hw9 (Nat.le_refl _) (fun _ _ h => h)) | (go_at_call 17; exact Calls.quiet_below (shown_any _) hw9 (Nat.le_refl _) (fun _ _ h => h)))); go_big_quiet_on))))))
  refine wpQuiet_nil ?_
  intro w2 hb2
  go_wp2
  go_ret
  exact ⟨rfl, hb.trans (hb2.mono hb.size)⟩
end Go.Proofs.Ytnpfdnpklopnkaa
