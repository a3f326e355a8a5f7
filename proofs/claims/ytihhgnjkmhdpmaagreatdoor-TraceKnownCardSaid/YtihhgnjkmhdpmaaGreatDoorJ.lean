/- inOrder and find. -/
import Derived.Test.YtihhgnjkmhdpmaaGreatDoorI
namespace Go.Proofs.YtihhgnjkmhdpmaaGreatDoor
open Go.RowKit
theorem PRow.holds {W : World} {B n : Nat} {f : Nat → Pl} (h : PRow W B n f) {d : Array Pl} (hs : d.size = n) (hd : ∀ i, i < n → d[i]! = f i) : Go.Sort.HoldsK pc 3 W B 0 d := by
  obtain ⟨cs, hb, hcs, hc⟩ := h
  intro j hj
  rw [Go.Sort.size_flatK] at hj
  rw [Go.Sort.get_flatK _ _ _ _ hj, Nat.zero_add, cell_blk hb]
  refine ⟨?_, frozen_blk hb _⟩
  have hi : j / 3 < n := by omega
  obtain ⟨h1, h2, h3⟩ := hc _ hi
  rw [hd _ hi]
  rcases (show j % 3 = 0 ∨ j % 3 = 1 ∨ j % 3 = 2 by omega) with e | e | e
  · rw [e, show cs[j]? = cs[j / 3 * 3]? by congr 1; omega, h1]; rfl
  · rw [e, show cs[j]? = cs[j / 3 * 3 + 1]? by congr 1; omega, h2]; rfl
  · rw [e, show cs[j]? = cs[j / 3 * 3 + 2]? by congr 1; omega, h3]; rfl
theorem PRow.cells {W : World} {B n : Nat} {f : Nat → Pl} (h : PRow W B n f) {i : Nat} (hi : i < n) : W.cell? ⟨B, i * 3, none⟩ = some (.int .i64 (f i).1) ∧ W.cell? ⟨B, i * 3 + 1, none⟩ = some (.int .i64 (f i).2.1) ∧ W.cell? ⟨B, i * 3 + 2, none⟩ = some (.int .i64 (f i).2.2) := by
  obtain ⟨cs, hb, hcs, hc⟩ := h
  obtain ⟨h1, h2, h3⟩ := hc i hi
  exact ⟨(cell_blk hb _).trans h1, (cell_blk hb _).trans h2, (cell_blk hb _).trans h3⟩
theorem PRow.frz {W : World} {B n : Nat} {f : Nat → Pl} (h : PRow W B n f) (i : Nat) : W.frozen? ⟨B, i, none⟩ = false := by
  obtain ⟨cs, hb, _⟩ := h
  exact frozen_blk hb i
/-- The places of regions, in order, in memory. -/
structure InOrd (W : World) (B : Nat) (d : Array Pl) (rs : List Rg) : Prop where
  size : d.size = rs.length
  lt : B < W.heap.size
  holds : Go.Sort.HoldsK pc 3 W B 0 d
  perm : d.toList.Perm (plc 0 rs)
  sorted : ∀ i j, i < j → j < rs.length → d[i]!.1 ≤ d[j]!.1
def InPost (w : World) (rs : List Rg) (e : Ending) (w' : World) : Prop := ∃ (B : Nat) (d : Array Pl), e = .returned (.slice (some ⟨B, 0, none⟩) rs.length rs.length) ∧ w.heap.size ≤ B ∧ InOrd w' B d rs ∧ Below w.heap.size w w'
theorem sortW_below {w : World} {W : World} {B m : Nat} {d : Array Pl} {os : Array Obj} (hb : Below w.heap.size w W) (hB : w.heap.size ≤ B) (hBW : B < W.heap.size) : Below w.heap.size w (Go.Proofs.sortWorldK pc 3 W B 0 m d os) := by
  refine ⟨hb.os, hb.tape, hb.output, ?_, fun i hi => ?_⟩
  · have := Go.Proofs.size_sortWorldK_c pc 3 W B 0 m d os
    have := hb.size; omega
  · rw [← hb.block i hi]
    have hne : B ≠ i := by omega
    have hiW : i < W.heap.size := Nat.lt_of_lt_of_le hi hb.size
    unfold Go.Proofs.sortWorldK Go.Sort.putRowK Go.Sort.putRow Go.Sort.mapBlock Go.Sort.grow Go.Sort.ahead
    simp [Array.getElem?_append, hiW, Array.getElem_modify, hne]
set_option maxHeartbeats 1600000 in
set_option maxRecDepth 100000 in
theorem inOrder_any (v : Value) (rs : List Rg) (w : World) (hv : RG w v rs) (hl : rs.length ≤ 1000000) (hg : ∀ r ∈ rs, 0 ≤ r.2.1 ∧ 1 ≤ r.2.2 ∧ r.2.1 + r.2.2 ≤ 65536) : Calls Tryz.prog 37 #[v] w (InPost w rs) := by
  obtain ⟨ho, p, c, rfl, hx⟩ := hv
  have HX := Lib.hid hx
  have HG := Lib.hid hg
  have MK := mk_pls rs.length (by omega) w
  obtain ⟨n, hn⟩ : ∃ n, n = rs.length := ⟨_, rfl⟩
  rw [← hn] at hl MK ⊢
  have HN := Lib.hid hn
  clear ho hx hn hg
  go_enter Tryz.func37, Tryz.ntmps37
  go_wp2
  clear MK
  go_loopw [4, 5, 11] (fun _ _ i wr => ∃ k : Nat, k ≤ n ∧ i = .int .i64 (k : Int) ∧ PRow wr w.heap.size n (fun j => if j < k then (plc 0 rs).getD j (0, 0, 0) else (0, 0, 0)) ∧ Below w.heap.size w wr) (fun _ _ i _ => n - (intOf i).toNat)
  case atStart => exact ⟨0, Nat.zero_le _, rfl, (PRow.made _ _).congr (fun i _ => by simp), (Below.refl _ w).alloc (Nat.le_refl _) _⟩
  case round =>
    obtain ⟨k, hk, rfl, hrow, hb⟩ := hrel
    by_cases hlt : k < n
    · have tl : decide ((k : Int) < (n : Int)) = true := decide_eq_true (by omega)
      obtain ⟨r, hrk⟩ : ∃ r, rs[k]? = some r := ⟨_, List.getElem?_eq_getElem (by rw [← HN.out]; exact hlt)⟩
      obtain ⟨b, o, rfl, hbl, c0, c1, c2⟩ := HX.out k r hrk
      replace c0 := (hb.cell (p := ⟨b, o + k * 3, none⟩) hbl).trans c0
      replace c1 := (hb.cell (p := ⟨b, o + k * 3 + 1, none⟩) hbl).trans c1
      replace c2 := (hb.cell (p := ⟨b, o + k * 3 + 2, none⟩) hbl).trans c2
      obtain ⟨g1, g2, g3⟩ := HG.out r (List.mem_of_getElem? hrk)
      have hw : IntKind.i64.wrap (r.2.1 + r.2.2) = r.2.1 + r.2.2 := IntWalk.i64_in _ (by omega)
      have PA := Lib.hid (plc_at (i := 0) hrk)
      have row2 : ∀ o : Obj, PRow (wr.alloc o) w.heap.size n (fun j => if j < k then (plc 0 rs).getD j (0, 0, 0) else (0, 0, 0)) := fun o => hrow.below ((Below.refl _ wr).alloc (Nat.le_refl _) o)
      obtain ⟨y0, y1, y2⟩ := hrow.cells hlt
      obtain ⟨z0, z1, z2⟩ := (row2 (.cells #[.string r.1, .int .i64 r.2.1, .int .i64 r.2.2] 45)).cells hlt
      have f0 := fun i => hrow.frz i
      have f1 := fun i => (row2 (.cells #[.string r.1, .int .i64 r.2.1, .int .i64 r.2.2] 45)).frz i
      have HR := Lib.hid row2
      have HB := Lib.hid (fun o : Obj => hb.alloc hb.size o)
      clear hrow hb row2 hbl hrk
      go_wp2
      go_roundw
      case rel =>
        refine ⟨k + 1, by omega, by go_num, ((HR.out _).set hlt (r.2.1, r.2.1 + r.2.2, (k : Int))).congr (fun j hj => ?_), (((HB.out _).setCell (p := ⟨w.heap.size, k * 3, none⟩) (Nat.le_refl _) _).setCell (p := ⟨w.heap.size, k * 3 + 1, none⟩) (Nat.le_refl _) _).setCell (p := ⟨w.heap.size, k * 3 + 2, none⟩) (Nat.le_refl _) _⟩
        by_cases e : j = k
        · rw [if_pos e, e, if_pos (by omega), List.getD_eq_getElem?_getD, PA.out]; simp
        · rw [if_neg e]
          by_cases e2 : j < k
          · rw [if_pos e2, if_pos (by omega)]
          · rw [if_neg e2, if_neg (by omega)]
      case measure => simp [intOf]; omega
    · obtain rfl : k = n := by omega
      have tl : decide ((k : Int) < (k : Int)) = false := decide_eq_false (by omega)
      have hlen : (plc 0 rs).toArray.size = k := by rw [List.size_toArray, plc_len, HN.out]
      have hold : Go.Sort.HoldsK pc 3 wr w.heap.size 0 (plc 0 rs).toArray := hrow.holds hlen (fun i hi => by
        rw [if_pos hi, getElem!_pos _ i (by rw [hlen]; exact hi), List.getElem_toArray, List.getD_eq_getElem?_getD, List.getElem?_eq_getElem (by rw [plc_len, ← HN.out]; exact hi)]; rfl)
      have hlt2 := hrow.lt
      have eg : ∀ args w, (callFunc 52 args).run Tryz.prog w = .ok (.enter 52 args) w := enters_of Tryz.func52 (by kernel_rfl) rfl
      have hcon := Go.Proofs.AnyQ.slices_SortFunc Tryz.sortPl 3 (fun w => by kernel_rfl) (fun w => by kernel_rfl) pc (fun _ => rfl) (fun x v hv => by simp [pc] at hv; rcases hv with rfl | rfl | rfl <;> rfl) cmpP cmpP_swo 52 #[] w.heap.size 0 k (plc 0 rs).toArray wr eg (fun _ _ _ _ x y => closure_any x y _) hold hlt2 (by rw [hlen]; omega)
      change Calls Tryz.prog 51 _ _ _ at hcon
      rw [hlen] at hcon
      have HC := Lib.hid hcon
      have HH := Lib.hid hold
      have HLE := Lib.hid hlen
      clear hcon hold eg hrow hlen
      go_wp2_with (go_at_call 51; refine HC.out.mono ?_; rintro e w' ⟨rfl, d', m, os, hp, hs, rfl⟩)
      go_ret
      have hd' : d'.size = k := by rw [hp.1, HLE.out]
      refine ⟨_, d', by rw [← HN.out]; rfl, Nat.le_refl _, ⟨by rw [hd', HN.out], ?_, ?_, ?_, ?_⟩, sortW_below hb (Nat.le_refl _) hlt2⟩
      · exact Go.Proofs.lt_sortWorldK pc 3 wr w.heap.size 0 m d' os hlt2
      · exact Go.Proofs.holdsK_sortWorldK pc 3 wr w.heap.size 0 m (plc 0 rs).toArray d' os hlt2 HH.out (by rw [hd', HLE.out])
      · have h2 := hp.2.2
        rw [show d'.extract 0 k = d' by rw [← hd']; exact Array.extract_size, show (plc 0 rs).toArray.extract 0 k = (plc 0 rs).toArray by rw [← HLE.out]; exact Array.extract_size] at h2
        simpa using h2
      · intro i j hij hj
        have := hs i j (Nat.zero_le _) hij (by rw [HN.out]; exact hj)
        rw [cmpP_lt] at this
        simp at this
        exact this
end Go.Proofs.YtihhgnjkmhdpmaaGreatDoor
