/- parseRun: a line that has three parts. -/
import Derived.Test.YtihhgnjkmhdpmaaGreatDoorZc
namespace Go.Proofs.YtihhgnjkmhdpmaaGreatDoor
open Go.RowKit W
theorem three_of {L : List ByteArray} {a b c : List UInt8} (h : L.map (·.data.toList) = [a, b, c]) : ∃ x y z : ByteArray, L = [x, y, z] ∧ x.data.toList = a ∧ y.data.toList = b ∧ z.data.toList = c := by
  match L, h with
  | [x, y, z], h => simp at h; exact ⟨x, y, z, rfl, h.1, h.2.1, h.2.2⟩
theorem lineR_three {t a b c : List UInt8} (h : cutC 32 [] t = [a, b, c]) : lineR t = if (a = loadL ∨ a = storeL) ∧ intE b 0 1000000000 = 0 ∧ intE c 0 1000000000 = 0 then
      (if intV c 0 1000000000 = 0 ∨ 65536 < intV b 0 1000000000 + intV c 0 1000000000 then (7, ⟨0, 0, 0⟩) else (0, ⟨if a = storeL then 2 else 1, intV b 0 1000000000, (intV c 0 1000000000).toNat⟩))
      else (6, ⟨0, 0, 0⟩) := by
  unfold lineR
  rw [h]
set_option maxHeartbeats 6400000 in
set_option maxRecDepth 100000 in
theorem parseRun_three (s : ByteArray) (w : World) (hw : LW w) (hs : s.size ≤ 4000000000) (a b c : List UInt8) (hc : cutC 32 [] s.data.toList = [a, b, c]) : Calls Tryz.prog 29 #[.string s] w (LrPost w s.data.toList) := by
  have hlr := lineR_three hc
  have hj := joinC_cutC 32 s.data.toList []
  rw [hc] at hj
  simp only [joinC, List.nil_append] at hj
  have hjl := congrArg List.length hj
  simp only [List.length_append, List.length_cons, W.length_data] at hjl
  have hb1 : Below w.heap.size w (w.alloc zeroRun) := (Below.refl _ w).alloc (Nat.le_refl _) _
  have hm := (hw.below hb1).ml
  obtain ⟨N, hN⟩ : ∃ N : Nat, (N : Int) = min 4 ((s.size : Int) + 1) := ⟨min 4 (s.size + 1), by omega⟩
  have h4 := (split4 s N hN).1 (by rw [hc]; rfl)
  rw [hc] at h4
  have GS := Lib.hid (splitn_any s (w.alloc zeroRun) N hs hm hN)
  obtain ⟨x, y, z, hL, rfl, rfl, rfl⟩ := three_of h4
  rw [hL] at GS
  have hy : y.size ≤ 281474976710656 := by rw [← W.length_data]; omega
  have hz : z.size ≤ 281474976710656 := by rw [← W.length_data]; omega
  obtain ⟨w1, hw1⟩ : ∃ w1, w1 = (w.alloc zeroRun).alloc (.cells (Lib.cellsOf [x, y, z] N) 9) := ⟨_, rfl⟩
  have hN3 : 3 ≤ N := by omega
  have hb0 : Below w.heap.size w w1 := by rw [hw1]; exact hb1.alloc hb1.size _
  have hsz : w1.heap.size = w.heap.size + 2 := by rw [hw1]; simp
  have hc0 : w1.heap[w.heap.size]? = some zeroRun := by rw [hw1]; exact (((Below.refl (w.alloc zeroRun).heap.size (w.alloc zeroRun)).alloc (Nat.le_refl _) _).block w.heap.size (by simp)).trans (heap_new w zeroRun)
  have hc1 : w1.heap[w.heap.size + 1]? = some (.cells (Lib.cellsOf [x, y, z] N) 9) := by rw [hw1]; have := heap_new (w.alloc zeroRun) (.cells (Lib.cellsOf [x, y, z] N) 9); rwa [World.size_alloc] at this
  have hcl : ∀ (j : Nat) (v : Value), ([.string x, .string y, .string z] : List Value)[j]? = some v → (Lib.cellsOf [x, y, z] N)[j]? = some v := by
    intro j v hv
    have hj := (List.getElem?_eq_some_iff.1 hv).1
    unfold Lib.cellsOf
    simp only [List.getElem?_toArray]
    rw [List.getElem?_append_left (by simpa using hj)]
    simpa using hv
  have HB0 := Lib.hid (fun W (h : Below w1.heap.size w1 W) => hb0.trans (h.mono hb0.size))
  have HC := Lib.hid (show ∀ W, Below w1.heap.size w1 W → W.cell? ⟨w.heap.size + 1, 0, none⟩ = some (.string x) ∧ W.cell? ⟨w.heap.size + 1, 1, none⟩ = some (.string y) ∧ W.cell? ⟨w.heap.size + 1, 2, none⟩ = some (.string z) ∧ W.cell? ⟨w.heap.size, 0, none⟩ = some (.int .i64 0) ∧ W.cell? ⟨w.heap.size, 1, none⟩ = some (.int .i64 0) ∧ W.cell? ⟨w.heap.size, 2, none⟩ = some (.int .i64 0) ∧ W.frozen? ⟨w.heap.size, 0, none⟩ = false ∧ W.frozen? ⟨w.heap.size, 1, none⟩ = false ∧ W.frozen? ⟨w.heap.size, 2, none⟩ = false from fun W h => by
    have e0 := (h.block w.heap.size (by omega)).trans hc0
    have e1 := (h.block (w.heap.size + 1) (by omega)).trans hc1
    exact ⟨(cell_blk e1 0).trans (hcl 0 _ rfl), (cell_blk e1 1).trans (hcl 1 _ rfl), (cell_blk e1 2).trans (hcl 2 _ rfl), (cell_blk e0 0).trans rfl, (cell_blk e0 1).trans rfl, (cell_blk e0 2).trans rfl, frozen_blk e0 0, frozen_blk e0 1, frozen_blk e0 2⟩)
  have I1 := Lib.hid (fun W (h : Below w1.heap.size w1 W) => int_any y 0 1000000000 (by decide) (by decide) W (hw.below (hb0.trans (h.mono hb0.size))) hy)
  have I2 := Lib.hid (fun W (h : Below w1.heap.size w1 W) => int_any z 0 1000000000 (by decide) (by decide) W (hw.below (hb0.trans (h.mono hb0.size))) hz)
  have KO := Lib.hid (fun W => kindOf_any x W)
  have hb := Below.refl w1.heap.size w1
  obtain ⟨y0, y1, y2, z0, z1, z2, v0, v1, v2⟩ := HC.out _ hb
  have hA9 : intE y.data.toList 0 1000000000 = 0 → 0 ≤ intV y.data.toList 0 1000000000 ∧ intV y.data.toList 0 1000000000 ≤ 1000000000 := fun h => by obtain ⟨_, q1, q2, q3⟩ := intE_zero h; rw [q3]; exact ⟨q1, q2⟩
  have hB9 : intE z.data.toList 0 1000000000 = 0 → 0 ≤ intV z.data.toList 0 1000000000 ∧ intV z.data.toList 0 1000000000 ≤ 1000000000 := fun h => by obtain ⟨_, q1, q2, q3⟩ := intE_zero h; rw [q3]; exact ⟨q1, q2⟩
  rw [← hw1] at GS
  generalize intV y.data.toList 0 1000000000 = A at *
  generalize intV z.data.toList 0 1000000000 = B at *
  generalize intE y.data.toList 0 1000000000 = E1 at *
  generalize intE z.data.toList 0 1000000000 = E2 at *
  have HSZ := Lib.hid hsz
  clear hw hs hc hj hjl hb1 hm hN h4 hL hy hz hw1 hN3 hb0 hsz hc0 hc1 hcl
  by_cases k1 : x.data.toList = loadL
  · have hk : kdP x.data.toList = (1, true) := by unfold kdP; exact if_pos k1
    have hst : ¬ x.data.toList = storeL := by rw [k1]; decide
    rw [hk] at KO
    rw [if_neg hst] at hlr
    replace hlr : lineR s.data.toList = if E1 = 0 ∧ E2 = 0 then (if B = 0 ∨ 65536 < A + B then (7, ⟨0, 0, 0⟩) else (0, ⟨1, A, B.toNat⟩)) else (6, ⟨0, 0, 0⟩) := by rw [hlr]; simp [k1]
    clear k1 hst hk
    by_cases h1 : E1 = 0
    · by_cases h2 : E2 = 0
      · obtain ⟨a0, a1⟩ := hA9 h1
        obtain ⟨b0, b1⟩ := hB9 h2
        have t1 : (E1 != 0) = false := by simp [h1]
        have t2 : (E2 != 0) = false := by simp [h2]
        have wab : IntKind.i64.wrap (A + B) = A + B := IntWalk.i64_in _ (by omega)
        rw [if_pos ⟨h1, h2⟩] at hlr
        by_cases h3 : B = 0
        · have t3 : (B == 0) = true := by simp [h3]
          have HE := Lib.hid (show lineR s.data.toList = (7, ⟨0, 0, 0⟩) by rw [hlr, if_pos (.inl h3)])
          clear h1 h2 h3 hlr hA9 hB9 a0 a1 b0 b1
          go_enter Tryz.func29, Tryz.ntmps29
          go_wp2_with (first
            | (go_at_call 47; refine GS.out.mono ?_; rintro e w2 ⟨rfl, rfl⟩)
            | (go_at_call 48; refine (KO.out _).mono ?_; rintro e w2 ⟨rfl, rfl⟩)
            | (go_at_call 49; (first | (with_reducible refine (I1.out _ hb).mono ?_) | (with_reducible refine (I2.out _ hb).mono ?_)); rintro e w3 ⟨rfl, hb2⟩; replace hb := hb.trans (hb2.mono hb.size); clear hb2 y0 y1 y2 z0 z1 z2 v0 v1 v2; (obtain ⟨y0, y1, y2, z0, z1, z2, v0, v1, v2⟩ := HC.out _ hb)))
          refine bodyPost_ret (v := .tuple #[runV ⟨0, 0, 0⟩, .int .i64 7]) ?_ rfl ?_
          · simp [results, Tryz.results29, go_sem, z0, z1, z2, runV]
          · exact ⟨by rw [HE.out], (((HB0.out _ hb).setCell (p := ⟨w.heap.size, 0, none⟩) (Nat.le_refl _) _).setCell (p := ⟨w.heap.size, 1, none⟩) (Nat.le_refl _) _).setCell (p := ⟨w.heap.size, 2, none⟩) (Nat.le_refl _) _⟩
        · have t3 : (B == 0) = false := by simpa using h3
          by_cases h4 : 65536 < A + B
          · have t4 : decide (65536 < A + B) = true := decide_eq_true h4
            have HE := Lib.hid (show lineR s.data.toList = (7, ⟨0, 0, 0⟩) by rw [hlr, if_pos (.inr h4)])
            clear h1 h2 h3 h4 hlr hA9 hB9 a0 a1 b0 b1
            go_enter Tryz.func29, Tryz.ntmps29
            go_wp2_with (first
              | (go_at_call 47; refine GS.out.mono ?_; rintro e w2 ⟨rfl, rfl⟩)
              | (go_at_call 48; refine (KO.out _).mono ?_; rintro e w2 ⟨rfl, rfl⟩)
              | (go_at_call 49; (first | (with_reducible refine (I1.out _ hb).mono ?_) | (with_reducible refine (I2.out _ hb).mono ?_)); rintro e w3 ⟨rfl, hb2⟩; replace hb := hb.trans (hb2.mono hb.size); clear hb2 y0 y1 y2 z0 z1 z2 v0 v1 v2; (obtain ⟨y0, y1, y2, z0, z1, z2, v0, v1, v2⟩ := HC.out _ hb)))
            refine bodyPost_ret (v := .tuple #[runV ⟨0, 0, 0⟩, .int .i64 7]) ?_ rfl ?_
            · simp [results, Tryz.results29, go_sem, z0, z1, z2, runV]
            · exact ⟨by rw [HE.out], (((HB0.out _ hb).setCell (p := ⟨w.heap.size, 0, none⟩) (Nat.le_refl _) _).setCell (p := ⟨w.heap.size, 1, none⟩) (Nat.le_refl _) _).setCell (p := ⟨w.heap.size, 2, none⟩) (Nat.le_refl _) _⟩
          · have t4 : decide (65536 < A + B) = false := decide_eq_false h4
            have HE := Lib.hid (show lineR s.data.toList = (0, ⟨1, A, B.toNat⟩) by rw [hlr, if_neg (by omega)])
            obtain ⟨n, rfl⟩ := Int.eq_ofNat_of_zero_le b0
            rw [Int.toNat_natCast] at HE
            clear h1 h2 h3 h4 hlr hA9 hB9 a0 a1 b0 b1
            go_enter Tryz.func29, Tryz.ntmps29
            go_wp2_with (first
              | (go_at_call 47; refine GS.out.mono ?_; rintro e w2 ⟨rfl, rfl⟩)
              | (go_at_call 48; refine (KO.out _).mono ?_; rintro e w2 ⟨rfl, rfl⟩)
              | (go_at_call 49; (first | (with_reducible refine (I1.out _ hb).mono ?_) | (with_reducible refine (I2.out _ hb).mono ?_)); rintro e w3 ⟨rfl, hb2⟩; replace hb := hb.trans (hb2.mono hb.size); clear hb2 y0 y1 y2 z0 z1 z2 v0 v1 v2; (obtain ⟨y0, y1, y2, z0, z1, z2, v0, v1, v2⟩ := HC.out _ hb)))
            refine bodyPost_ret (v := .tuple #[runV ⟨1, A, n⟩, .int .i64 0]) ?_ rfl ?_
            · simp [results, Tryz.results29, go_sem, z0, z1, z2, runV]
            · exact ⟨by rw [HE.out], (((HB0.out _ hb).setCell (p := ⟨w.heap.size, 0, none⟩) (Nat.le_refl _) _).setCell (p := ⟨w.heap.size, 1, none⟩) (Nat.le_refl _) _).setCell (p := ⟨w.heap.size, 2, none⟩) (Nat.le_refl _) _⟩
      · have t2 : (E2 != 0) = true := by simpa using h2
        have HE := Lib.hid (show lineR s.data.toList = (6, ⟨0, 0, 0⟩) by rw [hlr, if_neg (fun h => h2 h.2)])
        have t1 : (E1 != 0) = false := by simp [h1]
        clear h1 h2 hlr hA9 hB9
        go_enter Tryz.func29, Tryz.ntmps29
        go_wp2_with (first
          | (go_at_call 47; refine GS.out.mono ?_; rintro e w2 ⟨rfl, rfl⟩)
          | (go_at_call 48; refine (KO.out _).mono ?_; rintro e w2 ⟨rfl, rfl⟩)
          | (go_at_call 49; (first | (with_reducible refine (I1.out _ hb).mono ?_) | (with_reducible refine (I2.out _ hb).mono ?_)); rintro e w3 ⟨rfl, hb2⟩; replace hb := hb.trans (hb2.mono hb.size); clear hb2 y0 y1 y2 z0 z1 z2 v0 v1 v2; (obtain ⟨y0, y1, y2, z0, z1, z2, v0, v1, v2⟩ := HC.out _ hb)))
        refine bodyPost_ret (v := .tuple #[runV ⟨0, 0, 0⟩, .int .i64 6]) ?_ rfl ?_
        · simp [results, Tryz.results29, go_sem, z0, z1, z2, runV]
        · exact ⟨by rw [HE.out], (((HB0.out _ hb).setCell (p := ⟨w.heap.size, 0, none⟩) (Nat.le_refl _) _).setCell (p := ⟨w.heap.size, 1, none⟩) (Nat.le_refl _) _).setCell (p := ⟨w.heap.size, 2, none⟩) (Nat.le_refl _) _⟩
    · have t1 : (E1 != 0) = true := by simpa using h1
      have HE := Lib.hid (show lineR s.data.toList = (6, ⟨0, 0, 0⟩) by rw [hlr, if_neg (fun h => h1 h.1)])
      clear h1 hlr hA9 hB9
      go_enter Tryz.func29, Tryz.ntmps29
      go_wp2_with (first
        | (go_at_call 47; refine GS.out.mono ?_; rintro e w2 ⟨rfl, rfl⟩)
        | (go_at_call 48; refine (KO.out _).mono ?_; rintro e w2 ⟨rfl, rfl⟩)
        | (go_at_call 49; (first | (with_reducible refine (I1.out _ hb).mono ?_) | (with_reducible refine (I2.out _ hb).mono ?_)); rintro e w3 ⟨rfl, hb2⟩; replace hb := hb.trans (hb2.mono hb.size); clear hb2 y0 y1 y2 z0 z1 z2 v0 v1 v2; (obtain ⟨y0, y1, y2, z0, z1, z2, v0, v1, v2⟩ := HC.out _ hb)))
      refine bodyPost_ret (v := .tuple #[runV ⟨0, 0, 0⟩, .int .i64 6]) ?_ rfl ?_
      · simp [results, Tryz.results29, go_sem, z0, z1, z2, runV]
      · exact ⟨by rw [HE.out], (((HB0.out _ hb).setCell (p := ⟨w.heap.size, 0, none⟩) (Nat.le_refl _) _).setCell (p := ⟨w.heap.size, 1, none⟩) (Nat.le_refl _) _).setCell (p := ⟨w.heap.size, 2, none⟩) (Nat.le_refl _) _⟩
  · by_cases k2 : x.data.toList = storeL
    · have hk : kdP x.data.toList = (2, true) := by unfold kdP; exact (if_neg k1).trans (if_pos k2)
      rw [hk] at KO
      rw [if_pos k2] at hlr
      replace hlr : lineR s.data.toList = if E1 = 0 ∧ E2 = 0 then (if B = 0 ∨ 65536 < A + B then (7, ⟨0, 0, 0⟩) else (0, ⟨2, A, B.toNat⟩)) else (6, ⟨0, 0, 0⟩) := by rw [hlr]; simp [k2]
      clear k1 k2 hk
      by_cases h1 : E1 = 0
      · by_cases h2 : E2 = 0
        · obtain ⟨a0, a1⟩ := hA9 h1
          obtain ⟨b0, b1⟩ := hB9 h2
          have t1 : (E1 != 0) = false := by simp [h1]
          have t2 : (E2 != 0) = false := by simp [h2]
          have wab : IntKind.i64.wrap (A + B) = A + B := IntWalk.i64_in _ (by omega)
          rw [if_pos ⟨h1, h2⟩] at hlr
          by_cases h3 : B = 0
          · have t3 : (B == 0) = true := by simp [h3]
            have HE := Lib.hid (show lineR s.data.toList = (7, ⟨0, 0, 0⟩) by rw [hlr, if_pos (.inl h3)])
            clear h1 h2 h3 hlr hA9 hB9 a0 a1 b0 b1
            go_enter Tryz.func29, Tryz.ntmps29
            go_wp2_with (first
              | (go_at_call 47; refine GS.out.mono ?_; rintro e w2 ⟨rfl, rfl⟩)
              | (go_at_call 48; refine (KO.out _).mono ?_; rintro e w2 ⟨rfl, rfl⟩)
              | (go_at_call 49; (first | (with_reducible refine (I1.out _ hb).mono ?_) | (with_reducible refine (I2.out _ hb).mono ?_)); rintro e w3 ⟨rfl, hb2⟩; replace hb := hb.trans (hb2.mono hb.size); clear hb2 y0 y1 y2 z0 z1 z2 v0 v1 v2; (obtain ⟨y0, y1, y2, z0, z1, z2, v0, v1, v2⟩ := HC.out _ hb)))
            refine bodyPost_ret (v := .tuple #[runV ⟨0, 0, 0⟩, .int .i64 7]) ?_ rfl ?_
            · simp [results, Tryz.results29, go_sem, z0, z1, z2, runV]
            · exact ⟨by rw [HE.out], (((HB0.out _ hb).setCell (p := ⟨w.heap.size, 0, none⟩) (Nat.le_refl _) _).setCell (p := ⟨w.heap.size, 1, none⟩) (Nat.le_refl _) _).setCell (p := ⟨w.heap.size, 2, none⟩) (Nat.le_refl _) _⟩
          · have t3 : (B == 0) = false := by simpa using h3
            by_cases h4 : 65536 < A + B
            · have t4 : decide (65536 < A + B) = true := decide_eq_true h4
              have HE := Lib.hid (show lineR s.data.toList = (7, ⟨0, 0, 0⟩) by rw [hlr, if_pos (.inr h4)])
              clear h1 h2 h3 h4 hlr hA9 hB9 a0 a1 b0 b1
              go_enter Tryz.func29, Tryz.ntmps29
              go_wp2_with (first
                | (go_at_call 47; refine GS.out.mono ?_; rintro e w2 ⟨rfl, rfl⟩)
                | (go_at_call 48; refine (KO.out _).mono ?_; rintro e w2 ⟨rfl, rfl⟩)
                | (go_at_call 49; (first | (with_reducible refine (I1.out _ hb).mono ?_) | (with_reducible refine (I2.out _ hb).mono ?_)); rintro e w3 ⟨rfl, hb2⟩; replace hb := hb.trans (hb2.mono hb.size); clear hb2 y0 y1 y2 z0 z1 z2 v0 v1 v2; (obtain ⟨y0, y1, y2, z0, z1, z2, v0, v1, v2⟩ := HC.out _ hb)))
              refine bodyPost_ret (v := .tuple #[runV ⟨0, 0, 0⟩, .int .i64 7]) ?_ rfl ?_
              · simp [results, Tryz.results29, go_sem, z0, z1, z2, runV]
              · exact ⟨by rw [HE.out], (((HB0.out _ hb).setCell (p := ⟨w.heap.size, 0, none⟩) (Nat.le_refl _) _).setCell (p := ⟨w.heap.size, 1, none⟩) (Nat.le_refl _) _).setCell (p := ⟨w.heap.size, 2, none⟩) (Nat.le_refl _) _⟩
            · have t4 : decide (65536 < A + B) = false := decide_eq_false h4
              have HE := Lib.hid (show lineR s.data.toList = (0, ⟨2, A, B.toNat⟩) by rw [hlr, if_neg (by omega)])
              obtain ⟨n, rfl⟩ := Int.eq_ofNat_of_zero_le b0
              rw [Int.toNat_natCast] at HE
              clear h1 h2 h3 h4 hlr hA9 hB9 a0 a1 b0 b1
              go_enter Tryz.func29, Tryz.ntmps29
              go_wp2_with (first
                | (go_at_call 47; refine GS.out.mono ?_; rintro e w2 ⟨rfl, rfl⟩)
                | (go_at_call 48; refine (KO.out _).mono ?_; rintro e w2 ⟨rfl, rfl⟩)
                | (go_at_call 49; (first | (with_reducible refine (I1.out _ hb).mono ?_) | (with_reducible refine (I2.out _ hb).mono ?_)); rintro e w3 ⟨rfl, hb2⟩; replace hb := hb.trans (hb2.mono hb.size); clear hb2 y0 y1 y2 z0 z1 z2 v0 v1 v2; (obtain ⟨y0, y1, y2, z0, z1, z2, v0, v1, v2⟩ := HC.out _ hb)))
              refine bodyPost_ret (v := .tuple #[runV ⟨2, A, n⟩, .int .i64 0]) ?_ rfl ?_
              · simp [results, Tryz.results29, go_sem, z0, z1, z2, runV]
              · exact ⟨by rw [HE.out], (((HB0.out _ hb).setCell (p := ⟨w.heap.size, 0, none⟩) (Nat.le_refl _) _).setCell (p := ⟨w.heap.size, 1, none⟩) (Nat.le_refl _) _).setCell (p := ⟨w.heap.size, 2, none⟩) (Nat.le_refl _) _⟩
        · have t2 : (E2 != 0) = true := by simpa using h2
          have HE := Lib.hid (show lineR s.data.toList = (6, ⟨0, 0, 0⟩) by rw [hlr, if_neg (fun h => h2 h.2)])
          have t1 : (E1 != 0) = false := by simp [h1]
          clear h1 h2 hlr hA9 hB9
          go_enter Tryz.func29, Tryz.ntmps29
          go_wp2_with (first
            | (go_at_call 47; refine GS.out.mono ?_; rintro e w2 ⟨rfl, rfl⟩)
            | (go_at_call 48; refine (KO.out _).mono ?_; rintro e w2 ⟨rfl, rfl⟩)
            | (go_at_call 49; (first | (with_reducible refine (I1.out _ hb).mono ?_) | (with_reducible refine (I2.out _ hb).mono ?_)); rintro e w3 ⟨rfl, hb2⟩; replace hb := hb.trans (hb2.mono hb.size); clear hb2 y0 y1 y2 z0 z1 z2 v0 v1 v2; (obtain ⟨y0, y1, y2, z0, z1, z2, v0, v1, v2⟩ := HC.out _ hb)))
          refine bodyPost_ret (v := .tuple #[runV ⟨0, 0, 0⟩, .int .i64 6]) ?_ rfl ?_
          · simp [results, Tryz.results29, go_sem, z0, z1, z2, runV]
          · exact ⟨by rw [HE.out], (((HB0.out _ hb).setCell (p := ⟨w.heap.size, 0, none⟩) (Nat.le_refl _) _).setCell (p := ⟨w.heap.size, 1, none⟩) (Nat.le_refl _) _).setCell (p := ⟨w.heap.size, 2, none⟩) (Nat.le_refl _) _⟩
      · have t1 : (E1 != 0) = true := by simpa using h1
        have HE := Lib.hid (show lineR s.data.toList = (6, ⟨0, 0, 0⟩) by rw [hlr, if_neg (fun h => h1 h.1)])
        clear h1 hlr hA9 hB9
        go_enter Tryz.func29, Tryz.ntmps29
        go_wp2_with (first
          | (go_at_call 47; refine GS.out.mono ?_; rintro e w2 ⟨rfl, rfl⟩)
          | (go_at_call 48; refine (KO.out _).mono ?_; rintro e w2 ⟨rfl, rfl⟩)
          | (go_at_call 49; (first | (with_reducible refine (I1.out _ hb).mono ?_) | (with_reducible refine (I2.out _ hb).mono ?_)); rintro e w3 ⟨rfl, hb2⟩; replace hb := hb.trans (hb2.mono hb.size); clear hb2 y0 y1 y2 z0 z1 z2 v0 v1 v2; (obtain ⟨y0, y1, y2, z0, z1, z2, v0, v1, v2⟩ := HC.out _ hb)))
        refine bodyPost_ret (v := .tuple #[runV ⟨0, 0, 0⟩, .int .i64 6]) ?_ rfl ?_
        · simp [results, Tryz.results29, go_sem, z0, z1, z2, runV]
        · exact ⟨by rw [HE.out], (((HB0.out _ hb).setCell (p := ⟨w.heap.size, 0, none⟩) (Nat.le_refl _) _).setCell (p := ⟨w.heap.size, 1, none⟩) (Nat.le_refl _) _).setCell (p := ⟨w.heap.size, 2, none⟩) (Nat.le_refl _) _⟩
    · have hk : kdP x.data.toList = (0, false) := by unfold kdP; exact (if_neg k1).trans (if_neg k2)
      rw [hk] at KO
      have HE := Lib.hid (show lineR s.data.toList = (6, ⟨0, 0, 0⟩) by rw [hlr]; simp [k1, k2])
      clear k1 k2 hk hlr hA9 hB9
      go_enter Tryz.func29, Tryz.ntmps29
      go_wp2_with (first
        | (go_at_call 47; refine GS.out.mono ?_; rintro e w2 ⟨rfl, rfl⟩)
        | (go_at_call 48; refine (KO.out _).mono ?_; rintro e w2 ⟨rfl, rfl⟩)
        | (go_at_call 49; (first | (with_reducible refine (I1.out _ hb).mono ?_) | (with_reducible refine (I2.out _ hb).mono ?_)); rintro e w3 ⟨rfl, hb2⟩; replace hb := hb.trans (hb2.mono hb.size); clear hb2 y0 y1 y2 z0 z1 z2 v0 v1 v2; (obtain ⟨y0, y1, y2, z0, z1, z2, v0, v1, v2⟩ := HC.out _ hb)))
      refine bodyPost_ret (v := .tuple #[runV ⟨0, 0, 0⟩, .int .i64 6]) ?_ rfl ?_
      · simp [results, Tryz.results29, go_sem, z0, z1, z2, runV]
      · exact ⟨by rw [HE.out], (((HB0.out _ hb).setCell (p := ⟨w.heap.size, 0, none⟩) (Nat.le_refl _) _).setCell (p := ⟨w.heap.size, 1, none⟩) (Nat.le_refl _) _).setCell (p := ⟨w.heap.size, 2, none⟩) (Nat.le_refl _) _⟩
end Go.Proofs.YtihhgnjkmhdpmaaGreatDoor
