/- find. -/
import Derived.Test.YtihhgnjkmhdpmaaGreatDoorJ
namespace Go.Proofs.YtihhgnjkmhdpmaaGreatDoor
open Go.RowKit
set_option maxRecDepth 100000 in
theorem fclos_any (W : World) (B b1 b2 n i : Nat) (at_ e : Int) (hi : i < n) (h1 : W.cell? ⟨b1, 0, none⟩ = some (.slice (some ⟨B, 0, none⟩) n n)) (h2 : W.cell? ⟨b2, 0, none⟩ = some (.int .i64 at_)) (h3 : W.cell? ⟨B, i * 3 + 1, none⟩ = some (.int .i64 e)) :
    Calls Tryz.prog 55 #[.int .i64 (i : Int), .pointer (some ⟨b1, 0, none⟩), .pointer (some ⟨b2, 0, none⟩)] W fun x w' => x = .returned (.bool (decide (at_ < e))) ∧ ∃ q, w' = W.drewN q := by
  have g1 : (i : Int) < (n : Int) := by omega
  have g0 : (0 : Int) ≤ (i : Int) := by omega
  obtain ⟨q, hq⟩ : ∃ q, decide (at_ < e) = q := ⟨_, rfl⟩
  have HQ := Lib.hid hq
  clear hi
  go_enter Tryz.func55, Tryz.ntmps55
  go_wp2
  go_quiet (fail)
  go_wp2
  go_ret
  exact ⟨ret_bool HQ.out.symm, _, rfl⟩
/-- How many places end no later than an address. -/
def lowN (d : Array Pl) (n : Nat) (at_ : Int) : Nat := (List.range n).countP (fun i => !decide (at_ < (d[i]!).2.1))
def fndD (d : Array Pl) (n : Nat) (at_ : Int) : Int := if lowN d n at_ = n ∨ at_ < (d[lowN d n at_]!).1 then (n : Int) else (d[lowN d n at_]!).2.2
theorem lowN_le (d : Array Pl) (n : Nat) (at_ : Int) : lowN d n at_ ≤ n := by
  unfold lowN
  have := List.countP_le_length (p := fun i => !decide (at_ < (d[i]!).2.1)) (l := List.range n)
  rwa [List.length_range] at this
theorem holds_cells {W : World} {B : Nat} {d : Array Pl} (h : Go.Sort.HoldsK pc 3 W B 0 d) {i : Nat} (hi : i < d.size) : W.cell? ⟨B, i * 3, none⟩ = some (.int .i64 (d[i]!).1) ∧ W.cell? ⟨B, i * 3 + 1, none⟩ = some (.int .i64 (d[i]!).2.1) ∧ W.cell? ⟨B, i * 3 + 2, none⟩ = some (.int .i64 (d[i]!).2.2) := by
  have h0 := (h.cell (c := 0) hi (by omega)).1
  have h1 := (h.cell (c := 1) hi (by omega)).1
  have h2 := (h.cell (c := 2) hi (by omega)).1
  rw [Nat.zero_add, Nat.add_zero] at h0
  rw [Nat.zero_add] at h1 h2
  exact ⟨h0, h1, h2⟩
theorem grow_cell {w : World} {q : Nat} {os : Array Obj} {b : Nat} (hb : b < w.heap.size) (o : Nat) : (Go.Sort.grow (w.drewN q) os).cell? ⟨b, o, none⟩ = w.cell? ⟨b, o, none⟩ := by
  refine cell_of_block ?_ o
  unfold Go.Sort.grow World.drewN
  simp [Array.getElem?_append, hb]
theorem grow_below (w : World) (q : Nat) (os : Array Obj) : Below w.heap.size w (Go.Sort.grow (w.drewN q) os) :=
  ⟨rfl, rfl, rfl, by simp [Go.Sort.grow, World.drewN], fun i hi => by simp [Go.Sort.grow, World.drewN, Array.getElem?_append_left hi]⟩
set_option maxHeartbeats 1600000 in
set_option maxRecDepth 100000 in
theorem find_any (d : Array Pl) (n B : Nat) (at_ : Int) (w : World) (hd : d.size = n) (hB : B < w.heap.size) (hH : Go.Sort.HoldsK pc 3 w B 0 d) (hn : n ≤ 1000000) (hmono : ∀ i j, i < j → j < n → (d[i]!).2.1 ≤ (d[j]!).2.1) :
    Calls Tryz.prog 38 #[.slice (some ⟨B, 0, none⟩) n n, .int .i64 at_] w fun e w' => e = .returned (.int .i64 (fndD d n at_)) ∧ Below w.heap.size w w' := by
  have cl := fun i (hi : i < n) => holds_cells hH (i := i) (by rw [hd]; exact hi)
  have eg : ∀ args w, (callFunc 55 args).run Tryz.prog w = .ok (.enter 55 args) w := enters_of Tryz.func55 (by kernel_rfl) rfl
  have hcon := fun W (h1 : W.cell? ⟨w.heap.size, 0, none⟩ = some (.slice (some ⟨B, 0, none⟩) n n)) (h2 : W.cell? ⟨w.heap.size + 1, 0, none⟩ = some (.int .i64 at_)) (hs : w.heap.size + 1 < W.heap.size) (h3 : ∀ i, i < n → W.cell? ⟨B, i * 3 + 1, none⟩ = some (.int .i64 (d[i]!).2.1)) =>
    Go.Proofs.Any.sort_Search Tryz.search16 55 #[.pointer (some ⟨w.heap.size, 0, none⟩), .pointer (some ⟨w.heap.size + 1, 0, none⟩)] n (fun i => decide (at_ < (d[i]!).2.1)) W eg (by omega)
      (fun m os i hi => (fclos_any (Go.Sort.grow (W.drewN m) os) B w.heap.size (w.heap.size + 1) n i at_ (d[i]!).2.1 hi ((grow_cell (by omega) 0).trans h1) ((grow_cell (by omega) 0).trans h2) ((grow_cell (by omega) _).trans (h3 i hi))).mono fun x w' ⟨h, q, hq⟩ => ⟨h, q, #[], by rw [hq, Go.Sort.grow_empty]⟩)
      (fun a b hab hb ha => by
        simp only [decide_eq_true_eq] at ha ⊢
        rcases Nat.lt_or_ge a b with h | h
        · have := hmono a b h hb; omega
        · obtain rfl : a = b := by omega
          exact ha)
  change ∀ W, _ → _ → _ → _ → Calls Tryz.prog 54 _ _ _ at hcon
  have HC := Lib.hid hcon
  obtain ⟨k, hk⟩ : ∃ k, lowN d n at_ = k := ⟨_, rfl⟩
  have hkn := lowN_le d n at_
  rw [hk] at hkn
  have HF : Hid (fndD d n at_ = if k = n ∨ at_ < (d[k]!).1 then (n : Int) else (d[k]!).2.2) := Lib.hid (by unfold fndD; rw [hk])
  have HK := Lib.hid (show (List.range n).countP (fun i => !decide (at_ < (d[i]!).2.1)) = k from hk)
  have bL : ∀ i, i < n → ((w.alloc (.cells #[.slice (some ⟨B, 0, none⟩) n n] 81)).alloc (.cells #[.int .i64 at_] 3)).cell? ⟨B, i * 3 + 1, none⟩ = some (.int .i64 (d[i]!).2.1) := fun i hi => by
    rw [World.cell?_alloc_lt _ _ _ (by simp; omega), World.cell?_alloc_lt _ _ _ hB]
    exact (cl i hi).2.1
  have HL := Lib.hid bL
  have HB2 := Lib.hid (fun q os => ((((Below.refl _ w).alloc (Nat.le_refl _) (.cells #[.slice (some ⟨B, 0, none⟩) n n] 81)).alloc (by simp) (.cells #[.int .i64 at_] 3)).trans ((grow_below _ q os).mono (by simp; omega)) : Below w.heap.size w (Go.Sort.grow (((w.alloc (.cells #[.slice (some ⟨B, 0, none⟩) n n] 81)).alloc (.cells #[.int .i64 at_] 3)).drewN q) os)))
  have HCL := Lib.hid cl
  clear cl bL hcon hk hH hmono eg
  go_enter Tryz.func38, Tryz.ntmps38
  go_wp2_with (go_at_call 54; refine (HC.out _ (by simp) (by simp) (by simp) HL.out).mono ?_; rintro e w' ⟨rfl, q, os, rfl⟩)
  rw [HK.out]
  have s1 : (Go.Sort.grow (((w.alloc (.cells #[.slice (some ⟨B, 0, none⟩) n n] 81)).alloc (.cells #[.int .i64 at_] 3)).drewN q) os).cell? ⟨w.heap.size, 0, none⟩ = some (.slice (some ⟨B, 0, none⟩) n n) := by
    rw [grow_cell (by simp; omega)]; simp
  have s2 : (Go.Sort.grow (((w.alloc (.cells #[.slice (some ⟨B, 0, none⟩) n n] 81)).alloc (.cells #[.int .i64 at_] 3)).drewN q) os).cell? ⟨w.heap.size + 1, 0, none⟩ = some (.int .i64 at_) := by
    rw [grow_cell (by simp)]; simp
  have hbw := HB2.out q os
  have s3 : ∀ i, i < n → (Go.Sort.grow (((w.alloc (.cells #[.slice (some ⟨B, 0, none⟩) n n] 81)).alloc (.cells #[.int .i64 at_] 3)).drewN q) os).cell? ⟨B, i * 3, none⟩ = some (.int .i64 (d[i]!).1) := fun i hi => (hbw.cell (p := ⟨B, i * 3, none⟩) hB).trans (HCL.out i hi).1
  have s4 : ∀ i, i < n → (Go.Sort.grow (((w.alloc (.cells #[.slice (some ⟨B, 0, none⟩) n n] 81)).alloc (.cells #[.int .i64 at_] 3)).drewN q) os).cell? ⟨B, i * 3 + 2, none⟩ = some (.int .i64 (d[i]!).2.2) := fun i hi => (hbw.cell (p := ⟨B, i * 3 + 2, none⟩) hB).trans (HCL.out i hi).2.2
  generalize Go.Sort.grow (((w.alloc (.cells #[.slice (some ⟨B, 0, none⟩) n n] 81)).alloc (.cells #[.int .i64 at_] 3)).drewN q) os = wq at *
  have HBW := Lib.hid hbw
  clear hbw HB2 HC HL HCL hB
  have HDW := Lib.hid (fun q => (⟨HBW.out.os, HBW.out.tape, HBW.out.output, HBW.out.size, HBW.out.block⟩ : Below w.heap.size w (wq.drewN q)))
  by_cases hkk : k = n
  · have t1 : ((k : Int) == (n : Int)) = true := by simp [hkk]
    have R := Lib.hid (show fndD d n at_ = (n : Int) by rw [HF.out, if_pos (.inl hkk)])
    clear s3 s4
    go_wp2
    go_quiet (fail)
    go_wp2
    go_ret
    exact ⟨by rw [R.out]; rfl, HDW.out _⟩
  · have t1 : ((k : Int) == (n : Int)) = false := by rw [beq_eq_false_iff_ne]; omega
    have hlt : k < n := by omega
    have g1 : (k : Int) < (n : Int) := by omega
    have g0 : (0 : Int) ≤ (k : Int) := by omega
    have c0 := s3 k hlt
    have c2 := s4 k hlt
    obtain ⟨bs, hbs⟩ : ∃ bs, (d[k]!).1 = bs := ⟨_, rfl⟩
    obtain ⟨ix, hix⟩ : ∃ ix, (d[k]!).2.2 = ix := ⟨_, rfl⟩
    rw [hbs] at c0
    rw [hix] at c2
    by_cases hab : at_ < bs
    · have t2 : decide (at_ < bs) = true := decide_eq_true hab
      have R := Lib.hid (show fndD d n at_ = (n : Int) by rw [HF.out, if_pos (.inr (by rw [hbs]; exact hab))])
      clear s3 s4 hbs hix HF
      go_wp2
      go_quiet (fail)
      go_wp2
      go_ret
      exact ⟨by rw [R.out]; rfl, HDW.out _⟩
    · have t2 : decide (at_ < bs) = false := decide_eq_false hab
      have R := Lib.hid (show fndD d n at_ = ix by rw [HF.out, if_neg (by rw [hbs]; omega), hix])
      clear s3 s4 hbs hix HF
      go_wp2
      go_quiet (fail)
      go_wp2
      go_ret
      exact ⟨by rw [R.out]; rfl, HDW.out _⟩
end Go.Proofs.YtihhgnjkmhdpmaaGreatDoor
