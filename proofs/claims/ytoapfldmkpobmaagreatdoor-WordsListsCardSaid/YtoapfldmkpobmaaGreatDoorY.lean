/- Layer 1: List, walked. -/
import Derived.Test.YtoapfldmkpobmaaGreatDoorW
namespace Go.Proofs.YtoapfldmkpobmaaGreatDoor
open Go.RowKit
theorem ret_se {a b : List UInt8} {c d : Int} (h : a = b) (h' : c = d) : Ending.returned (.tuple #[.string ⟨a.toArray⟩, .int .i64 c]) = .returned (.tuple #[.string ⟨b.toArray⟩, .int .i64 d]) := by rw [h, h']
theorem info_str : (Tryz.prog.info? 9).map (fun i => (i.zero, i.size, i.bytes)) = some (some (.string ⟨#[]⟩), 1, 16) := by kernel_rfl
def strV (l : List UInt8) : Value := .string ⟨l.toArray⟩
def ListPost (w : World) (xs : List Int) (e : Ending) (w' : World) : Prop := e = .returned (.tuple #[.string ⟨(listS xs).toArray⟩, .int .i64 (listE xs)]) ∧ Below w.heap.size w w'
theorem listPost_bad {w w' : World} {xs : List Int} {c : Int} (h : listE xs = c) (hc : c ≠ 0) (hb : Below w.heap.size w w') : ListPost w xs (.returned (.tuple #[.string ⟨#[]⟩, .int .i64 c])) w' := by
  refine ⟨?_, hb⟩
  have : listS xs = [] := by unfold listS; rw [h, if_neg hc]
  rw [this, h]
theorem asc_bad {xs : List Int} {k : Nat} {y z : Int} (hy : xs[k + 1]? = some y) (hz : xs[k]? = some z) (h : ¬ z < y) : ascL xs = false := by
  unfold ascL
  rw [List.all_eq_false]
  have hk := (List.getElem?_eq_some_iff.1 hy).1
  exact ⟨k, by simp; omega, by simp only [List.getD_eq_getElem?_getD, hy, hz]; simpa using h⟩
theorem asc_good {xs : List Int} (h : ∀ i, i + 1 < xs.length → xs.getD i 0 < xs.getD (i + 1) 0) : ascL xs = true := by
  unfold ascL
  rw [List.all_eq_true]
  intro i hi
  simp at hi
  simpa using h i (by omega)
theorem cell_in {W : World} {a : Addr} {v : Value} (h : W.cell? a = some v) : a.block < W.heap.size := by
  unfold World.cell? at h
  rcases hb : W.heap[a.block]? with _ | o
  · rw [hb] at h; cases h
  · exact in_heap hb
theorem ISl.below {w W : World} {v : Value} {xs : List Int} (h : ISl w v xs) (hb : Below w.heap.size w W) : ISl W v xs := by
  obtain ⟨p, c, rfl, hv⟩ := h
  refine ⟨p, c, rfl, fun i z hz => ?_⟩
  obtain ⟨b, o, hp, hc⟩ := hv i z hz
  exact ⟨b, o, hp, (hb.cell (cell_in hc)).trans hc⟩
theorem own_some {w : World} {base : Nat} {e : TypeId} {size : Nat} {v : Value} {n : Nat} {xs : List Value} (_h : w.ownsRow base e size v n xs) : v.ownBlock = none ∨ v.ownBlock ≠ none := by
  rcases hb : v.ownBlock with _ | k
  · exact .inl rfl
  · exact .inr (by simp)
theorem own_ge {w : World} {base : Nat} {e : TypeId} {size : Nat} {v : Value} {n : Nat} {xs : List Value} (h : w.ownsRow base e size v n xs) {j : Nat} (hj : v.ownBlock = some j) : base ≤ j := by
  rcases h.2 with ⟨rfl, _⟩ | ⟨g, cap, cur, rfl, hb, _⟩
  · cases hj
  · cases hj; exact hb
theorem own_row {w : World} {base : Nat} {e : TypeId} {v : Value} {n : Nat} {xs : List Value} (h : w.ownsRow base e 1 v n xs) (hn : 1 ≤ n) : ∃ g cap, v = .slice (some ⟨g, 0, none⟩) n cap ∧ g < w.heap.size ∧ n ≤ cap ∧ ∀ j u, xs[j]? = some u → w.cell? ⟨g, 0 + j, none⟩ = some u := by
  have hc := fun g (hg : v.ownBlock = some g) => h.cells (g := g) hg
  rcases h.2 with ⟨rfl, h0⟩ | ⟨g, cap, cur, rfl, hb, hgg, hcap, _⟩
  · omega
  · exact ⟨g, cap, rfl, in_heap hgg, hcap, fun j u hu => by
      have := hc g rfl j u hu
      cases j with
      | zero => simpa [Addr.add] using this
      | succ j => simpa [Addr.add] using this⟩
theorem join_len {l : List (List UInt8)} (h : ∀ s ∈ l, s.length ≤ 43) : (Lib.join l [44]).length ≤ 44 * l.length := by
  have hl : Lib.lens l ≤ 43 * l.length := by
    induction l with
    | nil => simp [Lib.lens]
    | cons x r ih =>
      have h1 := h x (by simp)
      have h2 := ih (fun s hs => h s (by simp [hs]))
      simp [Lib.lens] at h2 ⊢; omega
  cases l with
  | nil => simp [Lib.join_nil]
  | cons x r => rw [Lib.join_length]; simp at hl ⊢; omega
theorem below_undrew {B : Nat} {w w2 : World} {m : Nat} (h : Below B (w.drewN m) w2) : Below B w w2 := ⟨h.os, h.tape, h.output, h.size, h.block⟩
set_option maxHeartbeats 800000 in
set_option maxRecDepth 100000 in
theorem list_any (v : Value) (xs : List Int) (w : World) (hw : LW w) (hv : ISl w v xs) (hl : xs.length ≤ 1000000) : Calls Tryz.prog 5 #[v] w (ListPost w xs) := by
  obtain ⟨i0, hi, hz0, hz1, hz2⟩ := info_parts info_str
  obtain ⟨p, c, rfl, hv⟩ := hv
  obtain ⟨n, hn⟩ : ∃ n, n = xs.length := ⟨_, rfl⟩
  have hv0 : ISl w (.slice p n c) xs := ⟨p, c, by rw [hn], hv⟩
  rw [← hn] at hl ⊢
  have HV := Lib.hid hv
  have HN := Lib.hid hn
  have HV0 := Lib.hid hv0
  clear hv hn hv0
  by_cases h500 : 500 < n
  · have hb : decide ((500 : Int) < (n : Int)) = true := decide_eq_true (by omega)
    have HE := Lib.hid (show listE xs = 3 by unfold listE; rw [← HN.out, if_pos h500])
    clear h500
    go_enter Tryz.func5, Tryz.ntmps5
    go_wp2
    go_ret2
    exact listPost_bad HE.out (by decide) (Below.refl _ _)
  have hb : decide ((500 : Int) < (n : Int)) = false := decide_eq_false (by omega)
  go_enter Tryz.func5, Tryz.ntmps5
  go_wp2
  go_loop [15] (fun i => ∃ k : Nat, k ≤ n ∧ i = .int .i64 k ∧ Hid (∀ z ∈ xs.take k, 0 ≤ z ∧ z ≤ 1000000000)) (fun i => n - (intOf i).toNat)
  case atStart => exact ⟨0, Nat.zero_le _, rfl, Lib.hid (by simp)⟩
  case round =>
    obtain ⟨k, hk, rfl, hd⟩ := hrel
    by_cases hlt : k < n
    · obtain ⟨z, hz⟩ : ∃ z, xs[k]? = some z := ⟨_, List.getElem?_eq_getElem (by rw [← HN.out]; exact hlt)⟩
      have hltb : decide ((k : Int) < (n : Int)) = true := decide_eq_true (by omega)
      obtain ⟨b, o, rfl, z0⟩ := HV.out k z hz
      have HZ := Lib.hid hz
      clear hz
      by_cases hr : 0 ≤ z ∧ z ≤ 1000000000
      · have h1 : decide (z < 0) = false := decide_eq_false (by omega)
        have h2 : decide ((1000000000 : Int) < z) = false := decide_eq_false (by omega)
        have HR := Lib.hid hr
        clear hr
        go_wp2
        go_round
        case rel =>
          refine ⟨k + 1, by omega, by go_num, Lib.hid ?_⟩
          intro y hy
          rw [List.take_add_one, HZ.out] at hy
          rcases List.mem_append.1 hy with hy | hy
          · exact hd.out y hy
          · simp at hy; rw [hy]; exact HR.out
        case measure => simp [intOf]; omega
      · have HE := Lib.hid (show listE xs = 7 by
          have : inR xs = false := by
            unfold inR; rw [List.all_eq_false]; exact ⟨z, List.mem_of_getElem? HZ.out, by simp; omega⟩
          unfold listE; rw [← HN.out, if_neg h500, this]; rfl)
        by_cases hneg : z < 0
        · have h1 : decide (z < 0) = true := decide_eq_true hneg
          clear hr hneg
          go_wp2
          go_ret2
          exact listPost_bad HE.out (by decide) (Below.refl _ _)
        · have h1 : decide (z < 0) = false := decide_eq_false hneg
          have h2 : decide ((1000000000 : Int) < z) = true := decide_eq_true (by omega)
          clear hr hneg
          go_wp2
          go_ret2
          exact listPost_bad HE.out (by decide) (Below.refl _ _)
    · have hltb : decide ((k : Int) < (n : Int)) = false := decide_eq_false (by omega)
      have hin : ∀ z ∈ xs, 0 ≤ z ∧ z ≤ 1000000000 := by
        have h := hd.out
        rwa [List.take_of_length_le (by rw [← HN.out]; omega)] at h
      have HIN := Lib.hid hin
      clear hin hd
      go_wp2
      clear hltb hlt hk
      go_loopw [6] (fun i wr => ∃ k : Nat, (k ≤ n ∨ k = 1) ∧ 1 ≤ k ∧ i = .int .i64 k ∧ Hid (∀ i, i + 1 < k → i + 1 < n → xs.getD i 0 < xs.getD (i + 1) 0) ∧ ∃ d, wr = w.drewN d) (fun i _ => n - (intOf i).toNat)
      case atStart => exact ⟨1, .inr rfl, by omega, rfl, Lib.hid (fun i h => by omega), 0, rfl⟩
      case round =>
        obtain ⟨k, hk, hk1, rfl, hd, d, rfl⟩ := hrel
        by_cases hlt : k < n
        · have hltb : decide ((k : Int) < (n : Int)) = true := decide_eq_true (by omega)
          obtain ⟨y, hy⟩ : ∃ z, xs[k]? = some z := ⟨_, List.getElem?_eq_getElem (by rw [← HN.out]; exact hlt)⟩
          obtain ⟨z, hz⟩ : ∃ z, xs[k - 1]? = some z := ⟨_, List.getElem?_eq_getElem (by rw [← HN.out]; omega)⟩
          obtain ⟨b, o, rfl, y0⟩ := HV.out k y hy
          obtain ⟨b', o', e, z0⟩ := HV.out (k - 1) z hz
          cases e
          have hk2 : ((k : Int) - 1).toNat = k - 1 := by omega
          have HY := Lib.hid hy
          have HZ := Lib.hid hz
          clear hy hz
          by_cases hyz : y ≤ z
          · have hc : decide (y ≤ z) = true := decide_eq_true hyz
            have HE := Lib.hid (show listE xs = 6 by
              have h1 : inR xs = true := by unfold inR; rw [List.all_eq_true]; intro z hz; simpa using HIN.out z hz
              have h2 : ascL xs = false := asc_bad (k := k - 1) (by rw [show k - 1 + 1 = k by omega]; exact HY.out) HZ.out (by omega)
              unfold listE; rw [← HN.out, if_neg h500, h1, h2]; rfl)
            clear hyz
            go_wp2
            go_quiet (fail)
            go_wp2
            go_ret2
            exact listPost_bad HE.out (by decide) (below_drewN (below_drewN (Below.refl _ _) _) _)
          · have hc : decide (y ≤ z) = false := decide_eq_false hyz
            have HYZ := Lib.hid hyz
            clear hyz
            go_wp2
            go_quiet (fail)
            go_wp2
            go_roundw
            case rel =>
              refine ⟨k + 1, .inl (by omega), by omega, by go_num, Lib.hid ?_, _, rfl⟩
              intro i h1 h2
              by_cases hi : i + 1 < k
              · exact hd.out i hi h2
              · obtain rfl : i = k - 1 := by omega
                rw [show k - 1 + 1 = k by omega, List.getD_eq_getElem?_getD, List.getD_eq_getElem?_getD, HY.out, HZ.out]
                have := HYZ.out
                simp; omega
            case measure => simp [intOf]; omega
        · have hltb : decide ((k : Int) < (n : Int)) = false := decide_eq_false (by omega)
          have HE := Lib.hid (show listE xs = 0 by
            have h1 : inR xs = true := by unfold inR; rw [List.all_eq_true]; intro z hz; simpa using HIN.out z hz
            have h2 : ascL xs = true := asc_good fun i hi => hd.out i (by rw [← HN.out] at hi; omega) (by rw [HN.out]; exact hi)
            unfold listE; rw [← HN.out, if_neg h500, h1, h2]; rfl)
          clear hd
          by_cases hn0 : n = 0
          · have hz : ((n : Int) == 0) = true := by rw [hn0]; rfl
            have HN0 := Lib.hid hn0
            clear hn0
            go_wp2
            go_ret2
            refine ⟨ret_se (a := [45]) ?_ HE.out.symm, below_drewN (Below.refl _ _) _⟩
            unfold listS
            rw [HE.out, if_pos rfl, if_pos (List.eq_nil_of_length_eq_zero (by rw [← HN.out, HN0.out]))]
          · have hz : ((n : Int) == 0) = false := beq_eq_false_iff_ne.2 (by omega)
            have HN0 := Lib.hid hn0
            clear hn0
            go_wp2
            clear hltb hlt hk
            go_loopw [7, 8] (fun v i wr => ∃ (k : Nat) (done : List (List UInt8)), k ≤ n ∧ i = .int .i64 k ∧ wr.ownsRow w.heap.size 9 1 v done.length (done.map strV) ∧ Below w.heap.size w wr ∧ Hid (runsG xs = done ++ runsG (xs.drop k)) ∧ done.length ≤ k ∧ Hid (∀ s ∈ done, s.length ≤ 43) ∧ (k = 0 ∨ 1 ≤ done.length)) (fun _ i _ => n - (intOf i).toNat)
            case atStart => exact ⟨0, [], Nat.zero_le _, rfl, World.ownsRow_nil _ _ _ _, below_drewN (Below.refl _ _) _, Lib.hid rfl, by simp, Lib.hid (by simp), .inl rfl⟩
            case round =>
              obtain ⟨k, done, hk, rfl, hown, hbel, hrun, hdk, hlen, hk0⟩ := hrel
              by_cases hlt : k < n
              · have hltb : decide ((k : Int) < (n : Int)) = true := decide_eq_true (by omega)
                have hsub : ISl wr (.slice p n c) xs := HV0.out.below hbel
                obtain ⟨E, hE⟩ : ∃ E, E = k + runLen (xs.drop k) := ⟨_, rfl⟩
                have HEND := Lib.hid (runEnd_any (.slice p n c) xs k wr hsub (by rw [← HN.out]; exact hlt) (by rw [← HN.out]; exact hl) HIN.out)
                rw [← hE] at HEND
                obtain ⟨z, hz⟩ : ∃ z, xs[k]? = some z := ⟨_, List.getElem?_eq_getElem (by rw [← HN.out]; exact hlt)⟩
                have hR1 : 1 ≤ runLen (xs.drop k) := by rw [drop_at hz]; simp only [runLen]; omega
                have hRn : runLen (xs.drop k) ≤ n - k := by have := runLen_le (xs.drop k); rwa [List.length_drop, ← HN.out] at this
                have hEk : k < E := by omega
                have hEn : E ≤ n := by omega
                obtain ⟨y, hy⟩ : ∃ z, xs[E - 1]? = some z := ⟨_, List.getElem?_eq_getElem (by rw [← HN.out]; omega)⟩
                obtain ⟨b, o, rfl, z0⟩ := HV.out k z hz
                obtain ⟨b', o', e, y0⟩ := HV.out (E - 1) y hy
                cases e
                have z1 := (hbel.cell (p := ⟨b, o + k, none⟩) (cell_in z0)).trans z0
                have y1 := (hbel.cell (p := ⟨b, o + (E - 1), none⟩) (cell_in y0)).trans y0
                have hE1 : ((E : Int) - 1).toNat = E - 1 := by omega
                have hE2 : IntKind.i64.wrap ((E : Int) - 1) = (E : Int) - 1 := IntWalk.i64_in _ (by omega)
                have hE3 : (1 : Int) ≤ (E : Int) := by omega
                have hE4 : (E : Int) - 1 < (n : Int) := by omega
                have hk4 : (k : Int) < (n : Int) := by omega
                have rz := HIN.out z (List.mem_of_getElem? hz)
                have ry := HIN.out y (List.mem_of_getElem? hy)
                have WR := Lib.hid (fun w' (h : Below w.heap.size w w') => writeRun_any z y rz ry w' (hw.below h))
                have OW := Lib.hid (fun w2 (h : Below wr.heap.size wr w2) => hown.kept (grown_of_below h) (own_some hown))
                have hstep : runsG xs = (done ++ [wrS z y]) ++ runsG (xs.drop E) := by
                  rw [hrun.out, drop_at hz, runsG_cons, ← drop_at hz, List.drop_drop, ← hE, List.append_assoc]
                  congr 2
                  rw [List.getD_eq_getElem?_getD, List.getElem?_drop, show k + (runLen (xs.drop k) - 1) = E - 1 by omega, hy]; rfl
                have HST := Lib.hid hstep
                have HLN := Lib.hid (wrS_len z y rz ry)
                have hdn : done.length ≤ 1000000 := by omega
                have HO := Lib.hid hown
                have HB := Lib.hid hbel
                clear hstep z0 y0 hz hy hE hR1 hRn rz ry hsub hown
                go_wp2_with (go_at_call 15; refine HEND.out.mono ?_; rintro e w' ⟨rfl, d2, rfl⟩)
                go_region_law (first | (refine step_append_own _ rfl _ _ 41 rfl w.heap.size 9 i0 (.string ⟨#[]⟩) 1 16 Tryz.underlying41 hi hz0 hz1 hz2 rfl (by decide) _ done.length _ rfl (hown2.out.alloc _) ⟨w2.heap.size, 0, none⟩ 1 1 [strV (wrS z y)] rfl rfl (cell_one_new _ _ _) (by simp [strV, Value.oneCell']) (by simp [maxLen]; omega) (by omega) (by simp; have := hb2.out.size; have := hbel.size; simp at *; omega) ?_; intro v' w3 hown3 hgr _) | (go_simp; go_at_call 16; refine (WR.out _ (below_drewN hbel _)).mono ?_; rintro e w2 ⟨rfl, hb2'⟩; have hb2 := Lib.hid (below_undrew hb2'); have hown2 := Lib.hid (OW.out w2 hb2.out)))
                all_goals go_wp2
                all_goals go_roundw
                all_goals first
                  | (simp [intOf]; omega)
                  | (have hs3 := hgr.size
                     rw [World.size_alloc] at hs3
                     have hb2x := hb2.out
                     have hw2 : Below w.heap.size w w2 := hbel.trans (hb2x.mono hbel.size)
                     refine ⟨E, done ++ [wrS z y], hEn, rfl, ?_, (hw2.alloc hw2.size _).grown hgr (by rw [World.size_alloc]; have := hw2.size; omega) (fun j e => own_ge HO.out e), HST, by rw [List.length_append]; simp only [List.length_cons, List.length_nil]; omega, Lib.hid ?_, .inr (by rw [List.length_append]; simp)⟩
                     · rw [List.length_append, List.map_append]; exact hown3
                     · intro s hs
                       rcases List.mem_append.1 hs with hs | hs
                       · exact hlen.out s hs
                       · simp at hs; rw [hs]; exact HLN.out)
              · have hltb : decide ((k : Int) < (n : Int)) = false := decide_eq_false (by omega)
                obtain rfl : k = n := by omega
                have hr : runsG xs = done := by
                  have h := hrun.out
                  rw [List.drop_of_length_le (by rw [HN.out]; exact Nat.le_refl _)] at h
                  rw [h]; exact List.append_nil _
                have hd1 : 1 ≤ done.length := by rcases hk0 with h | h; exact absurd h HN0.out; exact h
                have hjl : (Lib.join done [44]).length ≤ 44 * done.length := join_len hlen.out
                obtain ⟨g, cap, rfl, hgs, hcap, hcells⟩ := own_row hown hd1
                have hm : (done.map (fun l => (⟨l.toArray⟩ : ByteArray))).map (·.data.toList) = done := by rw [List.map_map]; exact List.map_id' _
                have HJ := Lib.hid (Tryz.strings_Join g 0 cap (done.map (fun l => (⟨l.toArray⟩ : ByteArray))) ⟨#[44]⟩ wr (fun j x hx => hcells j (.string x) (by
                  rw [List.getElem?_map] at hx ⊢
                  cases hd : done[j]? with
                  | none => rw [hd] at hx; cases hx
                  | some s => rw [hd] at hx; cases hx; rfl)) hgs (by rw [List.length_map]; omega) (by rw [List.length_map]; exact hcap) (by rw [hm]; show (Lib.join done [44]).length ≤ _; omega))
                rw [hm, List.length_map] at HJ
                have HR := Lib.hid hr
                clear hown hcells hm hr
                go_wp2_with (go_at_call 17; refine HJ.out.mono ?_; rintro e w2 ⟨rfl, hb2⟩)
                go_ret2
                refine ⟨ret_se ?_ HE.out.symm, hbel.trans (hb2.mono hbel.size)⟩
                unfold listS
                rw [HE.out, if_pos rfl, if_neg (fun e => HN0.out (by rw [HN.out, e]; rfl)), HR.out]
end Go.Proofs.YtoapfldmkpobmaaGreatDoor
