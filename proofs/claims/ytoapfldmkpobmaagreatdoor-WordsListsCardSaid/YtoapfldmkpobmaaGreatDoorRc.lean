/- Layer 1: the reference's List, walked. -/
import Derived.Test.YtoapfldmkpobmaaGreatDoorY
import Derived.Test.YtoapfldmkpobmaaGreatDoorJa
import Derived.Test.YtoapfldmkpobmaaGreatDoorE
import Derived.Test.YtoapfldmkpobmaaGreatDoorQi
import Derived.Deep.CutRange
namespace Go.Proofs.YtoapfldmkpobmaaGreatDoor
open Go.RowKit
theorem jn_first (x : List UInt8) : Lib.join ([] ++ [x]) [44] = x := Lib.join_one _ _
theorem jn_next (done : List (List UInt8)) (x : List UInt8) (h : done ≠ []) : Lib.join (done ++ [x]) [44] = Lib.join done [44] ++ (44 :: x) := join_snoc done x [44] h
theorem jn_pos {done : List (List UInt8)} (h : done ≠ []) (hp : ∀ s ∈ done, 1 ≤ s.length) : 1 ≤ (Lib.join done [44]).length := by
  cases done with
  | nil => exact absurd rfl h
  | cons x r =>
    rw [Lib.join_cons, List.length_append]
    have := hp x (by simp)
    omega
theorem wrS_pos (a b : Int) : 1 ≤ (wrS a b).length := by
  have key : ∀ a : Int, 1 ≤ (Lib.itoa a).length := fun a => by
    unfold Lib.itoa
    split
    · simp
    · have := (dec_nat a.toNat).1
      obtain ⟨c, r, h, _⟩ := nat_parts this
      rw [h]; simp
  unfold wrS
  split
  · exact key a
  · have := key a; simp; omega
theorem asc_lt {xs : List Int} (h : ∀ i, i + 1 < xs.length → xs.getD i 0 < xs.getD (i + 1) 0) : ∀ (m i : Nat), i + m + 1 < xs.length → xs.getD i 0 < xs.getD (i + m + 1) 0
  | 0, i, hi => h i hi
  | m + 1, i, hi => Int.lt_trans (asc_lt h m i (by omega)) (h (i + m + 1) (by omega))
theorem bel1 {w wr w3 : World} {d : Nat} (h : Below w.heap.size w wr) (h3 : Below (wr.drewN d).heap.size (wr.drewN d) w3) : Below w.heap.size w w3 := (below_drewN h d).trans (h3.mono (below_drewN h d).size)
theorem bel2 {w wr w3 : World} {d d2 : Nat} (h : Below w.heap.size w wr) (h3 : Below ((wr.drewN d).drewN d2).heap.size ((wr.drewN d).drewN d2) w3) : Below w.heap.size w w3 := bel1 (below_drewN h d) h3
theorem ba_eq {a b : ByteArray} (h : a.data.toList = b.data.toList) : a = b := ByteArray.ext (Array.ext' h)
set_option maxHeartbeats 1600000 in
set_option maxRecDepth 100000 in
theorem rlist_any (v : Value) (xs : List Int) (w : World) (hv : ISl w v xs) (hl : xs.length ≤ 1000000) : Calls Tryz.prog 6 #[v] w (ListPost w xs) := by
  obtain ⟨p, c, rfl, hv⟩ := hv
  obtain ⟨n, hn⟩ : ∃ n, n = xs.length := ⟨_, rfl⟩
  have hv0 : ISl w (.slice p n c) xs := ⟨p, c, by rw [hn], hv⟩
  rw [← hn] at hl ⊢
  have HV := Lib.hid hv
  have HN := Lib.hid hn
  have HV0 := Lib.hid hv0
  clear hv hn hv0
  by_cases h500 : 500 < n
  · have hb : decide ((500 : Int) < (n : Int)) = true := decide_eq_true (by omega)
    have HE := Lib.hid (show listE xs = 3 by unfold listE; rw [← HN.out, if_pos h500])
    clear h500
    go_enter Tryz.func6, Tryz.ntmps6
    go_wp2
    go_ret2
    exact listPost_bad HE.out (by decide) (Below.refl _ _)
  have hb : decide ((500 : Int) < (n : Int)) = false := decide_eq_false (by omega)
  go_enter Tryz.func6, Tryz.ntmps6
  go_wp2
  go_loop [4] (fun i => ∃ k : Nat, k ≤ n ∧ i = .int .i64 k ∧ Hid (∀ z ∈ xs.take k, 0 ≤ z ∧ z ≤ 1000000000)) (fun i => n - (intOf i).toNat)
  case atStart => exact ⟨0, Nat.zero_le _, rfl, Lib.hid (by simp)⟩
  case round =>
    obtain ⟨k, hk, rfl, hd⟩ := hrel
    by_cases hlt : k < n
    · obtain ⟨z, hz⟩ : ∃ z, xs[k]? = some z := ⟨_, List.getElem?_eq_getElem (by rw [← HN.out]; exact hlt)⟩
      have hltb : decide ((k : Int) < (n : Int)) = true := decide_eq_true (by omega)
      obtain ⟨b, o, rfl, z0⟩ := HV.out k z hz
      have HZ := Lib.hid hz
      clear hz
      by_cases hr : 0 ≤ z ∧ z ≤ 1000000000
      · have h1 : decide (z < 0) = false := decide_eq_false (by omega)
        have h2 : decide ((1000000000 : Int) < z) = false := decide_eq_false (by omega)
        have HR := Lib.hid hr
        clear hr
        go_wp2
        go_round
        case rel =>
          refine ⟨k + 1, by omega, by go_num, Lib.hid ?_⟩
          intro y hy
          rw [List.take_add_one, HZ.out] at hy
          rcases List.mem_append.1 hy with hy | hy
          · exact hd.out y hy
          · simp at hy; rw [hy]; exact HR.out
        case measure => simp [intOf]; omega
      · have HE := Lib.hid (show listE xs = 7 by
          have : inR xs = false := by
            unfold inR; rw [List.all_eq_false]; exact ⟨z, List.mem_of_getElem? HZ.out, by simp; omega⟩
          unfold listE; rw [← HN.out, if_neg h500, this]; rfl)
        by_cases hneg : z < 0
        · have h1 : decide (z < 0) = true := decide_eq_true hneg
          clear hr hneg
          go_wp2
          go_ret2
          exact listPost_bad HE.out (by decide) (Below.refl _ _)
        · have h1 : decide (z < 0) = false := decide_eq_false hneg
          have h2 : decide ((1000000000 : Int) < z) = true := decide_eq_true (by omega)
          clear hr hneg
          go_wp2
          go_ret2
          exact listPost_bad HE.out (by decide) (Below.refl _ _)
    · have hltb : decide ((k : Int) < (n : Int)) = false := decide_eq_false (by omega)
      have hin : ∀ z ∈ xs, 0 ≤ z ∧ z ≤ 1000000000 := by
        have h := hd.out
        rwa [List.take_of_length_le (by rw [← HN.out]; omega)] at h
      have HIN := Lib.hid hin
      clear hin hd
      go_wp2
      clear hltb hlt hk
      go_loopw [5] (fun i wr => ∃ k : Nat, (k ≤ n ∨ k = 1) ∧ 1 ≤ k ∧ i = .int .i64 k ∧ Hid (∀ i, i + 1 < k → i + 1 < n → xs.getD i 0 < xs.getD (i + 1) 0) ∧ ∃ d, wr = w.drewN d) (fun i _ => n - (intOf i).toNat)
      case atStart => exact ⟨1, .inr rfl, by omega, rfl, Lib.hid (fun i h => by omega), 0, rfl⟩
      case round =>
        obtain ⟨k, hk, hk1, rfl, hd, d, rfl⟩ := hrel
        by_cases hlt : k < n
        · have hltb : decide ((k : Int) < (n : Int)) = true := decide_eq_true (by omega)
          obtain ⟨y, hy⟩ : ∃ z, xs[k]? = some z := ⟨_, List.getElem?_eq_getElem (by rw [← HN.out]; exact hlt)⟩
          obtain ⟨z, hz⟩ : ∃ z, xs[k - 1]? = some z := ⟨_, List.getElem?_eq_getElem (by rw [← HN.out]; omega)⟩
          obtain ⟨b, o, rfl, y0⟩ := HV.out k y hy
          obtain ⟨b', o', e, z0⟩ := HV.out (k - 1) z hz
          cases e
          have hk2 : ((k : Int) - 1).toNat = k - 1 := by omega
          have HY := Lib.hid hy
          have HZ := Lib.hid hz
          clear hy hz
          by_cases hyz : y ≤ z
          · have hc : decide (y ≤ z) = true := decide_eq_true hyz
            have HE := Lib.hid (show listE xs = 6 by
              have h1 : inR xs = true := by unfold inR; rw [List.all_eq_true]; intro z hz; simpa using HIN.out z hz
              have h2 : ascL xs = false := asc_bad (k := k - 1) (by rw [show k - 1 + 1 = k by omega]; exact HY.out) HZ.out (by omega)
              unfold listE; rw [← HN.out, if_neg h500, h1, h2]; rfl)
            clear hyz
            go_wp2
            go_quiet (fail)
            go_wp2
            go_ret2
            exact listPost_bad HE.out (by decide) (below_drewN (below_drewN (Below.refl _ _) _) _)
          · have hc : decide (y ≤ z) = false := decide_eq_false hyz
            have HYZ := Lib.hid hyz
            clear hyz
            go_wp2
            go_quiet (fail)
            go_wp2
            go_roundw
            case rel =>
              refine ⟨k + 1, .inl (by omega), by omega, by go_num, Lib.hid ?_, _, rfl⟩
              intro i h1 h2
              by_cases hi : i + 1 < k
              · exact hd.out i hi h2
              · obtain rfl : i = k - 1 := by omega
                rw [show k - 1 + 1 = k by omega, List.getD_eq_getElem?_getD, List.getD_eq_getElem?_getD, HY.out, HZ.out]
                have := HYZ.out
                simp; omega
            case measure => simp [intOf]; omega
        · have hltb : decide ((k : Int) < (n : Int)) = false := decide_eq_false (by omega)
          have HE := Lib.hid (show listE xs = 0 by
            have h1 : inR xs = true := by unfold inR; rw [List.all_eq_true]; intro z hz; simpa using HIN.out z hz
            have h2 : ascL xs = true := asc_good fun i hi => hd.out i (by rw [← HN.out] at hi; omega) (by rw [HN.out]; exact hi)
            unfold listE; rw [← HN.out, if_neg h500, h1, h2]; rfl)
          have HASC := Lib.hid (show ∀ i, i + 1 < xs.length → xs.getD i 0 < xs.getD (i + 1) 0 from fun i hi => hd.out i (by rw [← HN.out] at hi; omega) (by rw [HN.out]; exact hi))
          clear hd
          by_cases hn0 : n = 0
          · have hz : ((n : Int) == 0) = true := by rw [hn0]; rfl
            have HN0 := Lib.hid hn0
            clear hn0
            go_wp2
            go_ret2
            refine ⟨ret_se (a := [45]) ?_ HE.out.symm, below_drewN (Below.refl _ _) _⟩
            unfold listS
            rw [HE.out, if_pos rfl, if_pos (List.eq_nil_of_length_eq_zero (by rw [← HN.out, HN0.out]))]
          · have hz : ((n : Int) == 0) = false := beq_eq_false_iff_ne.2 (by omega)
            have HN0 := Lib.hid hn0
            clear hn0
            go_wp2
            clear hltb hlt hk
            go_loopw [6, 7, 8] (fun o i _ wr => ∃ (k : Nat) (done : List (List UInt8)), k ≤ n ∧ i = .int .i64 k ∧ o = .string ⟨(Lib.join done [44]).toArray⟩ ∧ Below w.heap.size w wr ∧ Hid (runsG xs = done ++ runsG (xs.drop k)) ∧ done.length ≤ k ∧ Hid (∀ s ∈ done, 1 ≤ s.length ∧ s.length ≤ 43)) (fun _ i _ _ => n - (intOf i).toNat)
            case atStart => exact ⟨0, [], Nat.zero_le _, rfl, rfl, below_drewN (Below.refl _ _) _, Lib.hid rfl, by simp, Lib.hid (by simp)⟩
            case round =>
              obtain ⟨k, done, hk, rfl, rfl, hbel, hrun, hdk, hlen⟩ := hrel
              by_cases hlt : k < n
              · have hltb : decide ((k : Int) < (n : Int)) = true := decide_eq_true (by omega)
                obtain ⟨z, hz⟩ : ∃ z, xs[k]? = some z := ⟨_, List.getElem?_eq_getElem (by rw [← HN.out]; exact hlt)⟩
                obtain ⟨R, hR⟩ : ∃ R, R = runLen (xs.drop k) := ⟨_, rfl⟩
                have hR1 : 1 ≤ R := by rw [hR, drop_at hz]; simp only [runLen]; omega
                have hRn : R ≤ n - k := by have := runLen_le (xs.drop k); rw [List.length_drop, ← HN.out] at this; omega
                have h0 : R = 1 + runTail z (xs.drop (k + 1)) := by rw [hR, drop_at hz]; simp only [runLen]; omega
                obtain ⟨b, o, rfl, z0⟩ := HV.out k z hz
                obtain ⟨J, hJ⟩ : ∃ J, J = k + R - 1 := ⟨_, rfl⟩
                obtain ⟨T, hT⟩ : ∃ T : ByteArray, T = ⟨(Lib.join done [44]).toArray⟩ := ⟨_, rfl⟩
                rw [← hT]
                have hJn : J < n := by omega
                obtain ⟨y, hy⟩ : ∃ y, xs[J]? = some y := ⟨_, List.getElem?_eq_getElem (by rw [← HN.out]; exact hJn)⟩
                obtain ⟨b', o', e, y0⟩ := HV.out J y hy
                cases e
                have rz := HIN.out z (List.mem_of_getElem? hz)
                have ry := HIN.out y (List.mem_of_getElem? hy)
                have HVB := Lib.hid (fun W (h : Below w.heap.size w W) => And.intro ((h.cell (p := ⟨b, o + k, none⟩) (cell_in z0)).trans z0) ((h.cell (p := ⟨b, o + J, none⟩) (cell_in y0)).trans y0))
                have DZ := Lib.hid (fun W => rdigits_any z (by omega) (by omega) W)
                have DY := Lib.hid (fun W => rdigits_any y (by omega) (by omega) W)
                have hstep : runsG xs = (done ++ [wrS z y]) ++ runsG (xs.drop (k + R)) := by
                  rw [hrun.out, drop_at hz, runsG_cons, ← drop_at hz, List.drop_drop, ← hR, List.append_assoc]
                  congr 2
                  rw [List.getD_eq_getElem?_getD, List.getElem?_drop, show k + (R - 1) = J by omega, hy]; rfl
                have hwp := wrS_pos z y
                have hwl := wrS_len z y rz ry
                have hlz : (Lib.itoa z).length ≤ 21 := Lib.itoa_length_le _ (by omega) (by omega)
                have hly : (Lib.itoa y).length ≤ 21 := Lib.itoa_length_le _ (by omega) (by omega)
                have HST := Lib.hid hstep
                have HLD := Lib.hid (show (done ++ [wrS z y]).length ≤ k + R by rw [List.length_append]; simp; omega)
                have HLL : Hid (∀ s ∈ done ++ [wrS z y], 1 ≤ s.length ∧ s.length ≤ 43) := Lib.hid fun s hs => by
                  rcases List.mem_append.1 hs with hs | hs
                  · exact hlen.out s hs
                  · simp at hs; rw [hs]; exact ⟨hwp, hwl⟩
                have hjl : (Lib.join done [44]).length ≤ 44 * done.length := join_len fun s hs => (hlen.out s hs).2
                have hjp : done ≠ [] → 1 ≤ (Lib.join done [44]).length := fun h => jn_pos h fun s hs => (hlen.out s hs).1
                have hzy : 1 < R → z ≠ y := fun h => by
                  have := asc_lt HASC.out (R - 2) k (by rw [← HN.out]; omega)
                  rw [show k + (R - 2) + 1 = J by omega, List.getD_eq_getElem?_getD, List.getD_eq_getElem?_getD, hz, hy] at this
                  simp at this; omega
                have hyz : R = 1 → y = z := fun h => by
                  have : J = k := by omega
                  rw [this, hz] at hy; exact (Option.some.inj hy).symm
                have HZ := Lib.hid hz
                have H0 := Lib.hid h0
                have HJ := Lib.hid hJ
                clear hz h0 hR z0 y0 hy hstep hwp hwl hlen rz ry HASC hJ
                go_wp2
                have hTs : T.size ≤ 22000 := by rw [hT, size_mk]; omega
                have HTT := Lib.hid hT
                clear hT
                have hzs : (⟨(Lib.itoa z).toArray⟩ : ByteArray).size ≤ 21 := by rw [size_mk]; exact hlz
                have hys : (⟨(Lib.itoa y).toArray⟩ : ByteArray).size ≤ 21 := by rw [size_mk]; exact hly
                go_loopw [8] (fun q w2 => ∃ j : Nat, j < n ∧ k ≤ j ∧ q = .int .i64 j ∧ (∃ y, Hid (xs[j]? = some y) ∧ Hid (k + R = j + 1 + runTail y (xs.drop (j + 1)))) ∧ ∃ d, w2 = wr.drewN d) (fun q _ => n - (intOf q).toNat)
                case atStart => exact ⟨k, hlt, Nat.le_refl _, rfl, ⟨z, HZ, Lib.hid (by rw [H0.out]; omega)⟩, 0, rfl⟩
                case round =>
                  obtain ⟨j, hj, hkj, rfl, ⟨y1, hy1, hrn⟩, d2, rfl⟩ := hrel
                  obtain ⟨b1, o1, e1, v1⟩ := HV.out j y1 hy1.out
                  cases e1
                  obtain ⟨q1, q2⟩ := HIN.out y1 (List.mem_of_getElem? hy1.out)
                  have g1 := (hbel.cell (p := ⟨b, o + j, none⟩) (cell_in v1)).trans v1
                  have hj1 : ((j : Int) + 1).toNat = j + 1 := by omega
                  by_cases hlt2 : j + 1 < n
                  · have ht : decide ((j : Int) + 1 < (n : Int)) = true := decide_eq_true (by omega)
                    obtain ⟨y2, hy2⟩ : ∃ y, xs[j + 1]? = some y := ⟨_, List.getElem?_eq_getElem (by rw [← HN.out]; exact hlt2)⟩
                    obtain ⟨b2, o2, e2, v2⟩ := HV.out (j + 1) y2 hy2
                    cases e2
                    have g2 := (hbel.cell (p := ⟨b, o + (j + 1), none⟩) (cell_in v2)).trans v2
                    have hT : runTail y1 (xs.drop (j + 1)) = if y2 = y1 + 1 then runTail y2 (xs.drop (j + 1 + 1)) + 1 else 0 := by rw [drop_at hy2]; rfl
                    have HT := Lib.hid hT
                    have HT0 := HT
                    have HY2 := Lib.hid hy2
                    clear hT hy2 v1 v2
                    by_cases hyz : y2 = y1 + 1
                    · have heq : (y2 == y1 + 1) = true := beq_iff_eq.2 hyz
                      have HYZ := Lib.hid hyz
                      clear hyz
                      go_wp2
                      go_quiet (fail)
                      go_wp2
                      go_roundw
                      case rel => exact ⟨j + 1, by omega, by omega, by go_num, ⟨y2, HY2, Lib.hid (by rw [hrn.out, HT.out, if_pos HYZ.out]; omega)⟩, _, rfl⟩
                      case measure => simp [intOf]; omega
                    · have heq : (y2 == y1 + 1) = false := beq_eq_false_iff_ne.2 hyz
                      have hE : j = J := by have h9 := hrn.out; rw [HT.out, if_neg hyz] at h9; have := HJ.out; omega
                      clear hyz
                      obtain rfl := hE.symm
                      go_wp2
                      go_quiet (fail)
                      clear g1 hrn hj1 HT0 hy1 q1 q2
                      go_upto_if 77 with fail
                      have hJ := HJ.out
                      have x0 := (HVB.out _ hbel).1
                      obtain ⟨F, hF⟩ : ∃ F : ByteArray, F = ⟨(Lib.join (done ++ [wrS z y]) [44]).toArray⟩ := ⟨_, rfl⟩
                      have HFF := Lib.hid hF
                      by_cases hR2 : 1 < R
                      · have ht : decide ((k : Int) < (J : Int)) = true := decide_eq_true (by omega)
                        have ht3 : k < J := by omega
                        have ht2 : decide (k < J) = true := decide_eq_true ht3
                        by_cases hd0 : done = []
                        · have hT0 : T = ⟨#[]⟩ := by rw [HTT.out, hd0]; rfl
                          have hN := toList_nil T (by rw [hT0]; rfl)
                          have hE1 : T.toList.isEmpty = true := by rw [hN]; rfl
                          have hE : (!T.toList.isEmpty) = false := by rw [hN]; rfl
                          have HF := Lib.hid (show (T ++ ⟨(Lib.itoa z).toArray⟩) ++ ⟨#[45]⟩ ++ ⟨(Lib.itoa y).toArray⟩ = F by
                            rw [hF, hT0, hd0, jn_first]; unfold wrS; rw [if_neg (hzy hR2)]; apply ba_eq; simp)
                          clear hzy hyz hjp hd0 hJ hF hT0
                          generalize (⟨(Lib.itoa z).toArray⟩ : ByteArray) = Z at *
                          generalize (⟨(Lib.itoa y).toArray⟩ : ByteArray) = Y at *
                          rw [hE]
                          go_wp2_with (go_at_call 18; first
                            | ((with_reducible refine (DZ.out _).mono ?_); rintro e w3 ⟨rfl, hb3'⟩; first | (with_reducible have hb3 := bel2 hbel hb3') | (with_reducible have hb3 := bel1 hbel hb3')
                               have x1 := (HVB.out _ hb3).2; clear hb3')
                            | ((with_reducible refine (DY.out _).mono ?_); rintro e w4 ⟨rfl, hb4'⟩; have hb4 := hb3.trans (hb4'.mono hb3.size); clear hb4'))
                          go_roundw
                          case rel => exact ⟨k + R, done ++ [wrS z y], by omega, by have := HJ.out; go_num, by rw [← HFF.out, ← HF.out], (by first | exact hb4 | exact hb3), HST.out, HLD.out, HLL⟩
                          case measure => simp [intOf]; omega
                        · have hTp : 0 < T.size := by rw [HTT.out, size_mk]; have := hjp hd0; omega
                          have hN := ne_nil_pos _ hTp
                          have hE : (!T.toList.isEmpty) = true := by rw [isEmpty_pos _ hTp]; rfl
                          have hE1 := isEmpty_pos _ hTp
                          have HF := Lib.hid (show ((T ++ ⟨#[44]⟩) ++ ⟨(Lib.itoa z).toArray⟩) ++ ⟨#[45]⟩ ++ ⟨(Lib.itoa y).toArray⟩ = F by
                            rw [hF, HTT.out, jn_next _ _ hd0]; unfold wrS; rw [if_neg (hzy hR2)]; apply ba_eq; simp)
                          clear hzy hyz hjp hd0 hJ hF
                          generalize (⟨(Lib.itoa z).toArray⟩ : ByteArray) = Z at *
                          generalize (⟨(Lib.itoa y).toArray⟩ : ByteArray) = Y at *
                          rw [hE]
                          go_wp2_with (go_at_call 18; first
                            | ((with_reducible refine (DZ.out _).mono ?_); rintro e w3 ⟨rfl, hb3'⟩; first | (with_reducible have hb3 := bel2 hbel hb3') | (with_reducible have hb3 := bel1 hbel hb3')
                               have x1 := (HVB.out _ hb3).2; clear hb3')
                            | ((with_reducible refine (DY.out _).mono ?_); rintro e w4 ⟨rfl, hb4'⟩; have hb4 := hb3.trans (hb4'.mono hb3.size); clear hb4'))
                          go_roundw
                          case rel => exact ⟨k + R, done ++ [wrS z y], by omega, by have := HJ.out; go_num, by rw [← HFF.out, ← HF.out], (by first | exact hb4 | exact hb3), HST.out, HLD.out, HLL⟩
                          case measure => simp [intOf]; omega
                      · obtain rfl : R = 1 := by omega
                        obtain rfl : J = k := by omega
                        clear hJ
                        have ht : decide ((J : Int) < (J : Int)) = false := decide_eq_false (by omega)
                        have ht3 : ¬ J < J := by omega
                        have ht2 : decide (J < J) = false := decide_eq_false ht3
                        by_cases hd0 : done = []
                        · have hT0 : T = ⟨#[]⟩ := by rw [HTT.out, hd0]; rfl
                          have hN := toList_nil T (by rw [hT0]; rfl)
                          have hE1 : T.toList.isEmpty = true := by rw [hN]; rfl
                          have hE : (!T.toList.isEmpty) = false := by rw [hN]; rfl
                          have HF := Lib.hid (show (T ++ ⟨(Lib.itoa z).toArray⟩) = F by
                            rw [hF, hT0, hd0, jn_first]; unfold wrS; rw [if_pos (hyz rfl).symm]; apply ba_eq; simp)
                          clear hzy hyz hjp hd0 hF hT0
                          generalize (⟨(Lib.itoa z).toArray⟩ : ByteArray) = Z at *
                          generalize (⟨(Lib.itoa y).toArray⟩ : ByteArray) = Y at *
                          rw [hE]
                          go_wp2_with (go_at_call 18
                                       (with_reducible refine (DZ.out _).mono ?_)
                                       rintro e w3 ⟨rfl, hb3'⟩
                                       first | (with_reducible have hb3 := bel2 hbel hb3') | (with_reducible have hb3 := bel1 hbel hb3')
                                       clear hb3')
                          go_roundw
                          case rel => exact ⟨J + 1, done ++ [wrS z y], by omega, by go_num, by rw [← HFF.out, ← HF.out], hb3, HST.out, HLD.out, HLL⟩
                          case measure => simp [intOf]; omega
                        · have hTp : 0 < T.size := by rw [HTT.out, size_mk]; have := hjp hd0; omega
                          have hN := ne_nil_pos _ hTp
                          have hE : (!T.toList.isEmpty) = true := by rw [isEmpty_pos _ hTp]; rfl
                          have hE1 := isEmpty_pos _ hTp
                          have HF := Lib.hid (show ((T ++ ⟨#[44]⟩) ++ ⟨(Lib.itoa z).toArray⟩) = F by
                            rw [hF, HTT.out, jn_next _ _ hd0]; unfold wrS; rw [if_pos (hyz rfl).symm]; apply ba_eq; simp)
                          clear hzy hyz hjp hd0 hF
                          generalize (⟨(Lib.itoa z).toArray⟩ : ByteArray) = Z at *
                          generalize (⟨(Lib.itoa y).toArray⟩ : ByteArray) = Y at *
                          rw [hE]
                          go_wp2_with (go_at_call 18
                                       (with_reducible refine (DZ.out _).mono ?_)
                                       rintro e w3 ⟨rfl, hb3'⟩
                                       first | (with_reducible have hb3 := bel2 hbel hb3') | (with_reducible have hb3 := bel1 hbel hb3')
                                       clear hb3')
                          go_roundw
                          case rel => exact ⟨J + 1, done ++ [wrS z y], by omega, by go_num, by rw [← HFF.out, ← HF.out], hb3, HST.out, HLD.out, HLL⟩
                          case measure => simp [intOf]; omega
                  · have ht : decide ((j : Int) + 1 < (n : Int)) = false := decide_eq_false (by omega)
                    have HT0 := hrn
                    have hE : j = J := by
                      have h := hrn.out
                      rw [List.drop_of_length_le (by rw [← HN.out]; omega)] at h
                      simp only [runTail] at h
                      have := HJ.out; omega
                    clear v1
                    obtain rfl := hE.symm
                    go_wp2
                    go_quiet (fail)
                    clear g1 hrn hj1 HT0 hy1 q1 q2
                    go_upto_if 77 with fail
                    have hJ := HJ.out
                    have x0 := (HVB.out _ hbel).1
                    obtain ⟨F, hF⟩ : ∃ F : ByteArray, F = ⟨(Lib.join (done ++ [wrS z y]) [44]).toArray⟩ := ⟨_, rfl⟩
                    have HFF := Lib.hid hF
                    by_cases hR2 : 1 < R
                    · have ht : decide ((k : Int) < (J : Int)) = true := decide_eq_true (by omega)
                      have ht3 : k < J := by omega
                      have ht2 : decide (k < J) = true := decide_eq_true ht3
                      by_cases hd0 : done = []
                      · have hT0 : T = ⟨#[]⟩ := by rw [HTT.out, hd0]; rfl
                        have hN := toList_nil T (by rw [hT0]; rfl)
                        have hE1 : T.toList.isEmpty = true := by rw [hN]; rfl
                        have hE : (!T.toList.isEmpty) = false := by rw [hN]; rfl
                        have HF := Lib.hid (show (T ++ ⟨(Lib.itoa z).toArray⟩) ++ ⟨#[45]⟩ ++ ⟨(Lib.itoa y).toArray⟩ = F by
                          rw [hF, hT0, hd0, jn_first]; unfold wrS; rw [if_neg (hzy hR2)]; apply ba_eq; simp)
                        clear hzy hyz hjp hd0 hJ hF hT0
                        generalize (⟨(Lib.itoa z).toArray⟩ : ByteArray) = Z at *
                        generalize (⟨(Lib.itoa y).toArray⟩ : ByteArray) = Y at *
                        rw [hE]
                        go_wp2_with (go_at_call 18; first
                          | ((with_reducible refine (DZ.out _).mono ?_); rintro e w3 ⟨rfl, hb3'⟩; first | (with_reducible have hb3 := bel2 hbel hb3') | (with_reducible have hb3 := bel1 hbel hb3')
                             have x1 := (HVB.out _ hb3).2; clear hb3')
                          | ((with_reducible refine (DY.out _).mono ?_); rintro e w4 ⟨rfl, hb4'⟩; have hb4 := hb3.trans (hb4'.mono hb3.size); clear hb4'))
                        go_roundw
                        case rel => exact ⟨k + R, done ++ [wrS z y], by omega, by have := HJ.out; go_num, by rw [← HFF.out, ← HF.out], (by first | exact hb4 | exact hb3), HST.out, HLD.out, HLL⟩
                        case measure => simp [intOf]; omega
                      · have hTp : 0 < T.size := by rw [HTT.out, size_mk]; have := hjp hd0; omega
                        have hN := ne_nil_pos _ hTp
                        have hE : (!T.toList.isEmpty) = true := by rw [isEmpty_pos _ hTp]; rfl
                        have hE1 := isEmpty_pos _ hTp
                        have HF := Lib.hid (show ((T ++ ⟨#[44]⟩) ++ ⟨(Lib.itoa z).toArray⟩) ++ ⟨#[45]⟩ ++ ⟨(Lib.itoa y).toArray⟩ = F by
                          rw [hF, HTT.out, jn_next _ _ hd0]; unfold wrS; rw [if_neg (hzy hR2)]; apply ba_eq; simp)
                        clear hzy hyz hjp hd0 hJ hF
                        generalize (⟨(Lib.itoa z).toArray⟩ : ByteArray) = Z at *
                        generalize (⟨(Lib.itoa y).toArray⟩ : ByteArray) = Y at *
                        rw [hE]
                        go_wp2_with (go_at_call 18; first
                          | ((with_reducible refine (DZ.out _).mono ?_); rintro e w3 ⟨rfl, hb3'⟩; first | (with_reducible have hb3 := bel2 hbel hb3') | (with_reducible have hb3 := bel1 hbel hb3')
                             have x1 := (HVB.out _ hb3).2; clear hb3')
                          | ((with_reducible refine (DY.out _).mono ?_); rintro e w4 ⟨rfl, hb4'⟩; have hb4 := hb3.trans (hb4'.mono hb3.size); clear hb4'))
                        go_roundw
                        case rel => exact ⟨k + R, done ++ [wrS z y], by omega, by have := HJ.out; go_num, by rw [← HFF.out, ← HF.out], (by first | exact hb4 | exact hb3), HST.out, HLD.out, HLL⟩
                        case measure => simp [intOf]; omega
                    · obtain rfl : R = 1 := by omega
                      obtain rfl : J = k := by omega
                      clear hJ
                      have ht : decide ((J : Int) < (J : Int)) = false := decide_eq_false (by omega)
                      have ht3 : ¬ J < J := by omega
                      have ht2 : decide (J < J) = false := decide_eq_false ht3
                      by_cases hd0 : done = []
                      · have hT0 : T = ⟨#[]⟩ := by rw [HTT.out, hd0]; rfl
                        have hN := toList_nil T (by rw [hT0]; rfl)
                        have hE1 : T.toList.isEmpty = true := by rw [hN]; rfl
                        have hE : (!T.toList.isEmpty) = false := by rw [hN]; rfl
                        have HF := Lib.hid (show (T ++ ⟨(Lib.itoa z).toArray⟩) = F by
                          rw [hF, hT0, hd0, jn_first]; unfold wrS; rw [if_pos (hyz rfl).symm]; apply ba_eq; simp)
                        clear hzy hyz hjp hd0 hF hT0
                        generalize (⟨(Lib.itoa z).toArray⟩ : ByteArray) = Z at *
                        generalize (⟨(Lib.itoa y).toArray⟩ : ByteArray) = Y at *
                        rw [hE]
                        go_wp2_with (go_at_call 18
                                     (with_reducible refine (DZ.out _).mono ?_)
                                     rintro e w3 ⟨rfl, hb3'⟩
                                     first | (with_reducible have hb3 := bel2 hbel hb3') | (with_reducible have hb3 := bel1 hbel hb3')
                                     clear hb3')
                        go_roundw
                        case rel => exact ⟨J + 1, done ++ [wrS z y], by omega, by go_num, by rw [← HFF.out, ← HF.out], hb3, HST.out, HLD.out, HLL⟩
                        case measure => simp [intOf]; omega
                      · have hTp : 0 < T.size := by rw [HTT.out, size_mk]; have := hjp hd0; omega
                        have hN := ne_nil_pos _ hTp
                        have hE : (!T.toList.isEmpty) = true := by rw [isEmpty_pos _ hTp]; rfl
                        have hE1 := isEmpty_pos _ hTp
                        have HF := Lib.hid (show ((T ++ ⟨#[44]⟩) ++ ⟨(Lib.itoa z).toArray⟩) = F by
                          rw [hF, HTT.out, jn_next _ _ hd0]; unfold wrS; rw [if_pos (hyz rfl).symm]; apply ba_eq; simp)
                        clear hzy hyz hjp hd0 hF
                        generalize (⟨(Lib.itoa z).toArray⟩ : ByteArray) = Z at *
                        generalize (⟨(Lib.itoa y).toArray⟩ : ByteArray) = Y at *
                        rw [hE]
                        go_wp2_with (go_at_call 18
                                     (with_reducible refine (DZ.out _).mono ?_)
                                     rintro e w3 ⟨rfl, hb3'⟩
                                     first | (with_reducible have hb3 := bel2 hbel hb3') | (with_reducible have hb3 := bel1 hbel hb3')
                                     clear hb3')
                        go_roundw
                        case rel => exact ⟨J + 1, done ++ [wrS z y], by omega, by go_num, by rw [← HFF.out, ← HF.out], hb3, HST.out, HLD.out, HLL⟩
                        case measure => simp [intOf]; omega
              · have hltb : decide ((k : Int) < (n : Int)) = false := decide_eq_false (by omega)
                obtain rfl : k = n := by omega
                have hr : runsG xs = done := by
                  have h := hrun.out
                  rw [List.drop_of_length_le (by rw [HN.out]; exact Nat.le_refl _)] at h
                  rw [h]; exact List.append_nil _
                have HR := Lib.hid hr
                clear hr
                go_wp2
                go_ret2
                refine ⟨ret_se ?_ HE.out.symm, hbel⟩
                unfold listS
                rw [HE.out, if_pos rfl, if_neg (fun e => HN0.out (by rw [HN.out, e]; rfl)), HR.out]
end Go.Proofs.YtoapfldmkpobmaaGreatDoor
