/- Layer 1: the law on inverses, walked. -/
import Derived.Test.YtoapfldmkpobmaaDoorInvA
import Derived.Deep.CutRange
import Derived.Deep.RegionHeld3
namespace Go.Proofs.YtoapfldmkpobmaaDoor
open Go.RowKit
/-- The world where the argument of numbers lies in memory. -/
abbrev bxW (w : World) (p : Option Addr) (m c : Nat) (n : Int) : World := w.alloc (.cells #[.slice p m c, .int .i64 n] 25)
theorem same_drew {w wk w2 : World} {d : Nat} {B : Nat} (hb : Below B w wk) (h : w2 = wk.drewN d) : Below B w w2 := by
  rw [h]; exact below_drewN hb d
set_option maxHeartbeats 4000000 in
set_option maxRecDepth 100000 in
theorem inverse_any (s : ByteArray) (v u : Value) (xs : List Item) (ns : List Int) (n : Int) (w : World) (hw : LW w) (hv : FSl w v xs) (hu : ISl w u ns) (h0 : -9223372036854775808 ≤ n) (h1 : n ≤ 9223372036854775807) :
    Calls Tryd.prog 3 #[.string s, v, .agg #[u, .int .i64 n]] w fun e w' => e = .returned (.bool true) ∧ Below w.heap.size w w' := by
  have HU0 := hu
  obtain ⟨p, c, rfl, -⟩ := hu
  obtain ⟨m, hm⟩ : ∃ m, m = ns.length := ⟨_, rfl⟩
  rw [← hm] at HU0 ⊢
  have HM := Lib.hid hm
  clear hm
  have B0 : Below w.heap.size w (bxW w p m c n) := (Below.refl _ w).alloc (Nat.le_refl _) _
  have up : ∀ W, Below (bxW w p m c n).heap.size (bxW w p m c n) W → Below w.heap.size w W := fun W h => B0.trans (h.mono B0.size)
  have f0 : (bxW w p m c n).cell? ⟨w.heap.size, 0, none⟩ = some (.slice p m c) := by rw [cell_of_row _ _ _ _ _ _ (heap_alloc_new _ _)]; rfl
  have f1 : (bxW w p m c n).cell? ⟨w.heap.size, 1, none⟩ = some (.int .i64 n) := by rw [cell_of_row _ _ _ _ _ _ (heap_alloc_new _ _)]; rfl
  have CE := Lib.hid (fun W (h : Below (bxW w p m c n).heap.size (bxW w p m c n) W) => And.intro ((h.cell (p := ⟨w.heap.size, 0, none⟩) (by simp)).trans f0) ((h.cell (p := ⟨w.heap.size, 1, none⟩) (by simp)).trans f1))
  have UPP := Lib.hid up
  have hb := Below.refl (bxW w p m c n).heap.size (bxW w p m c n)
  have y0 := (CE.out _ hb).1
  have y1 := (CE.out _ hb).2
  have SH := Lib.hid (fun W (h : Below (bxW w p m c n).heap.size (bxW w p m c n) W) => shown_any W (hw.below (up W h)))
  have FA := Lib.hid (far_any v xs (bxW w p m c n) (hv.below B0))
  unfold FarPost at FA
  clear f0 f1 B0
  by_cases h3 : 3000 < s.size
  · have a1 : decide ((3000 : Int) < (s.size : Int)) = true := decide_eq_true (by omega)
    clear h3 hw hv HU0 up
    go_enter Tryd.func3, Tryd.ntmps3
    go_wp2_with (go_at_call 6; (with_reducible refine (SH.out _ hb).mono ?_); rintro e w2 ⟨rfl, hb2⟩
                 replace hb := hb.trans (hb2.mono hb.size); clear hb2; replace y0 := (CE.out _ hb).1; replace y1 := (CE.out _ hb).2
                 )
    go_ret
    exact ⟨rfl, UPP.out _ hb⟩
  have a1 : decide ((3000 : Int) < (s.size : Int)) = false := decide_eq_false (by omega)
  by_cases h5 : 510 < m
  · have a2 : decide ((510 : Int) < (m : Int)) = true := decide_eq_true (by omega)
    clear h3 h5 hw hv HU0 up
    go_enter Tryd.func3, Tryd.ntmps3
    go_wp2_with (first
      | (go_at_call 5; (with_reducible refine FA.out.mono ?_); rintro e w1 ⟨rfl, b, rfl, hb70⟩; cases b)
      | (go_at_call 6; (with_reducible refine (SH.out _ hb).mono ?_); rintro e w2 ⟨rfl, hb2⟩
         replace hb := hb.trans (hb2.mono hb.size); clear hb2; replace y0 := (CE.out _ hb).1; replace y1 := (CE.out _ hb).2
         )
      )
    all_goals (go_ret; exact ⟨rfl, UPP.out _ hb⟩)
  have a2 : decide ((510 : Int) < (m : Int)) = false := decide_eq_false (by omega)
  -- the fields of the line
  obtain ⟨E1, hE1⟩ : ∃ E, E = spE s.data.toList := ⟨_, rfl⟩
  obtain ⟨X1, hX1⟩ : ∃ X, X = spX s.data.toList := ⟨_, rfl⟩
  have hl1 := spX_len s.data.toList
  rw [length_data, ← hX1] at hl1
  have SP := Lib.hid (fun W (h : Below (bxW w p m c n).heap.size (bxW w p m c n) W) => (split_any s W (hw.below (up W h)) (by omega)).mono fun _ _ h => sp_fsl h)
  rw [← hE1, ← hX1] at SP
  have JN1 := Lib.hid (fun (hE : E1 = 0) W f (h : Below (bxW w p m c n).heap.size (bxW w p m c n) W) (hf : FSl W f X1) => join_any f X1 W (hw.below (up W h)) hf (by omega))
  have hj1 : E1 = 0 → joinE X1 = 0 ∧ (⟨(joinR X1).toArray⟩ : ByteArray) = s := fun e => by
    obtain ⟨q1, q2⟩ := split_join (l := s.data.toList) (by rw [← hE1]; exact e)
    rw [hX1, q2]
    exact ⟨q1, rfl⟩
  have HJ1 := Lib.hid hj1
  -- the line of the fields
  obtain ⟨E2, hE2⟩ : ∃ E, E = joinE xs := ⟨_, rfl⟩
  obtain ⟨T, hT⟩ : ∃ T : ByteArray, T = ⟨(joinR xs).toArray⟩ := ⟨_, rfl⟩
  have JN2 := Lib.hid (fun (hx : xs.length ≤ 70) W (h : Below (bxW w p m c n).heap.size (bxW w p m c n) W) => join_any v xs W (hw.below (up W h)) (hv.below (up W h)) (by omega))
  unfold JPost at JN1 JN2
  rw [← hE2, ← hT] at JN2
  obtain ⟨X2, hX2⟩ : ∃ X, X = spX (joinR xs) := ⟨_, rfl⟩
  have SP2 := Lib.hid (fun (hE : E2 = 0) W (h : Below (bxW w p m c n).heap.size (bxW w p m c n) W) => (split_any T W (hw.below (up W h)) (by rw [hT, size_mk]; have := (join_split (by rw [← hE2]; exact hE)).2.2; omega)).mono fun _ _ h => sp_fsl h)
  have hs2 : E2 = 0 → spE T.data.toList = 0 ∧ spX T.data.toList = X2 ∧ sameL X2 xs = true ∧ X2.length ≤ 1000000 := fun e => by
    obtain ⟨q1, q2, q3⟩ := join_split (xs := xs) (by rw [← hE2]; exact e)
    have e1 : T.data.toList = joinR xs := by rw [hT]
    rw [e1, hX2]
    exact ⟨q1, rfl, q2, by have := spX_len (joinR xs); omega⟩
  have HS2 := Lib.hid hs2
  have SM := Lib.hid (fun (hE : E2 = 0) W f (h : Below (bxW w p m c n).heap.size (bxW w p m c n) W) (hf : FSl W f X2) => same_any f v X2 xs W hf (hv.below (up W h)) (hs2 hE).2.2.2)
  -- the quoted string
  obtain ⟨Q, hQ⟩ : ∃ Q : ByteArray, Q = ⟨(quoteL s.data.toList).toArray⟩ := ⟨_, rfl⟩
  obtain ⟨V, hV⟩ : ∃ V : ByteArray, V = ⟨(unqT s.data.toList).toArray⟩ := ⟨_, rfl⟩
  obtain ⟨E3, hE3⟩ : ∃ E, E = unqE s.data.toList := ⟨_, rfl⟩
  have hqs : Q.size ≤ 100000 := by
    rw [hQ, size_mk]
    unfold quoteL
    have := escAll_le s.data.toList
    rw [length_data] at this
    simp; omega
  have QU := Lib.hid (fun W (h : Below (bxW w p m c n).heap.size (bxW w p m c n) W) => quote_any s W (hw.below (up W h)) (by omega))
  rw [← hQ] at QU
  have UN1 := Lib.hid (fun W (h : Below (bxW w p m c n).heap.size (bxW w p m c n) W) => unquote_any Q W (hw.below (up W h)) (by omega))
  have hq1 : unqE Q.data.toList = 0 ∧ (⟨(unqT Q.data.toList).toArray⟩ : ByteArray) = s := by
    obtain ⟨q1, q2⟩ := unq_quote s.data.toList
    have e : Q.data.toList = quoteL s.data.toList := by rw [hQ]
    rw [e, q2]
    exact ⟨q1, rfl⟩
  rw [hq1.1, hq1.2] at UN1
  have UN2 := Lib.hid (fun W (h : Below (bxW w p m c n).heap.size (bxW w p m c n) W) => unquote_any s W (hw.below (up W h)) (by omega))
  rw [← hV, ← hE3] at UN2
  have QV := Lib.hid (fun (hE : E3 = 0) W (h : Below (bxW w p m c n).heap.size (bxW w p m c n) W) => quote_any V W (hw.below (up W h)) (by
    have hq := quote_unq (l := s.data.toList) (by rw [← hE3]; exact hE)
    have : (unqT s.data.toList).length ≤ (quoteL (unqT s.data.toList)).length := by unfold quoteL; have := escAll_len (unqT s.data.toList); simp; omega
    rw [hq, length_data] at this
    rw [hV, size_mk]; omega))
  have hqv : E3 = 0 → (⟨(quoteL V.data.toList).toArray⟩ : ByteArray) = s := fun e => by
    have hq := quote_unq (l := s.data.toList) (by rw [← hE3]; exact e)
    rw [show V.data.toList = unqT s.data.toList by rw [hV], hq]
  have HQV := Lib.hid hqv
  -- the list of the numbers
  obtain ⟨L, hL⟩ : ∃ L : ByteArray, L = ⟨(listS ns).toArray⟩ := ⟨_, rfl⟩
  obtain ⟨E4, hE4⟩ : ∃ E, E = listE ns := ⟨_, rfl⟩
  have hns : ns.length ≤ 510 := by rw [← HM.out]; omega
  have HU := Lib.hid (fun W (h : Below (bxW w p m c n).heap.size (bxW w p m c n) W) => HU0.below (up W h))
  have LS := Lib.hid (fun W (h : Below (bxW w p m c n).heap.size (bxW w p m c n) W) => list_any _ ns W (hw.below (up W h)) (HU.out W h) (by omega))
  unfold ListPost at LS
  rw [← hL, ← hE4] at LS
  have hLs : L.size ≤ 1000000 := by
    rw [hL, size_mk]
    exact listS_size ns (by omega)
  have PL1 := Lib.hid (fun W (h : Below (bxW w p m c n).heap.size (bxW w p m c n) W) => parse_any L W (hw.below (up W h)) (by omega))
  have hp1 : E4 = 0 → parseLE L = 0 ∧ plS L = ns := fun e => by
    rw [hL]; exact plS_list (by rw [← hE4]; exact e)
  have HP1 := Lib.hid hp1
  have LI := Lib.hid (fun W f (h : Below (bxW w p m c n).heap.size (bxW w p m c n) W) (hf : ISl W f ns) => lists_any f _ ns W hf (HU.out W h) (by omega))
  -- the numbers of the string
  obtain ⟨E5, hE5⟩ : ∃ E, E = parseLE s := ⟨_, rfl⟩
  have PL2 := Lib.hid (fun W (h : Below (bxW w p m c n).heap.size (bxW w p m c n) W) => parse_any s W (hw.below (up W h)) (by omega))
  obtain ⟨M, hM⟩ : ∃ M, M = plS s := ⟨_, rfl⟩
  rw [← hE5, ← hM] at PL2
  have hp2 : E5 = 0 → listE M = 0 ∧ (⟨(listS M).toArray⟩ : ByteArray) = s ∧ M.length ≤ 1000000 := fun e => by
    obtain ⟨q1, q2⟩ := list_plS (s := s) (by rw [← hE5]; exact e)
    rw [hM, q2]
    exact ⟨q1, rfl, by have := (listE_parts q1).1; omega⟩
  have HP2 := Lib.hid hp2
  have LS2 := Lib.hid (fun (hE : E5 = 0) W f (h : Below (bxW w p m c n).heap.size (bxW w p m c n) W) (hf : ISl W f M) => list_any f M W (hw.below (up W h)) hf (hp2 hE).2.2)
  unfold ListPost at LS2
  -- the numbers
  obtain ⟨D, hD⟩ : ∃ D : ByteArray, D = ⟨(Lib.itoa n).toArray⟩ := ⟨_, rfl⟩
  have DG := Lib.hid (fun W (h : Below (bxW w p m c n).heap.size (bxW w p m c n) W) => digits_any n h0 h1 W (hw.below (up W h)))
  rw [← hD] at DG
  have IN1 := Lib.hid (fun W (h : Below (bxW w p m c n).heap.size (bxW w p m c n) W) => int_any D n n h0 h1 W (hw.below (up W h)) (by
    rw [hD, size_mk]; have := Lib.itoa_length_le n (by omega) (by omega); omega))
  rw [show D.data.toList = Lib.itoa n by rw [hD], (int_self n).1, (int_self n).2] at IN1
  obtain ⟨K, hK⟩ : ∃ K, K = intV s.data.toList (-9223372036854775808) 9223372036854775807 := ⟨_, rfl⟩
  obtain ⟨E6, hE6⟩ : ∃ E, E = intE s.data.toList (-9223372036854775808) 9223372036854775807 := ⟨_, rfl⟩
  have IN2 := Lib.hid (fun W (h : Below (bxW w p m c n).heap.size (bxW w p m c n) W) => int_any s (-9223372036854775808) 9223372036854775807 (by decide) (by decide) W (hw.below (up W h)) (by omega))
  rw [← hK, ← hE6] at IN2
  have hk : E6 = 0 → (⟨(Lib.itoa K).toArray⟩ : ByteArray) = s ∧ -9223372036854775808 ≤ K ∧ K ≤ 9223372036854775807 := fun e => by
    obtain ⟨q1, q2, q3⟩ := int_back (l := s.data.toList) (lo := -9223372036854775808) (hi := 9223372036854775807) (by rw [← hE6]; exact e)
    rw [← hK] at q1 q2 q3
    rw [q1]
    exact ⟨rfl, q2, q3⟩
  have DK := Lib.hid (fun (hE : E6 = 0) W (h : Below (bxW w p m c n).heap.size (bxW w p m c n) W) => digits_any K (hk hE).2.1 (hk hE).2.2 W (hw.below (up W h)))
  have HK := Lib.hid hk
  clear h3 h5 hw hv HU0 up hE1 hX1 hl1 hj1 hE2 hT hX2 hs2 hQ hV hE3 hqs hq1 hqv hL hE4 hns HU hLs hp1 hE5 hM hp2 hD hK hE6 hk h0 h1 HM
  go_enter Tryd.func3, Tryd.ntmps3
  go_upto_if 37 with (go_at_call 5; (with_reducible refine FA.out.mono ?_); rintro e w1 ⟨rfl, b, rfl, hb70⟩; cases b)
  · have hx70 : xs.length ≤ 70 := by simpa using hb70
    replace JN2 := Lib.hid (JN2.out hx70)
    clear hb70 hx70 FA
    go_upto_if 45 with (go_at_call 7; (with_reducible refine (SP.out _ hb).mono ?_); rintro e w2 ⟨hb2, f, rfl, hf⟩
                        replace hb := hb.trans (hb2.mono hb.size); clear hb2; replace y0 := (CE.out _ hb).1; replace y1 := (CE.out _ hb).2
                        )
    go_cut [] from 25 (fun wx => Below (bxW w p m c n).heap.size (bxW w p m c n) wx)
    case first =>
      by_cases hE : E1 = 0
      · have J := Lib.hid (JN1.out hE)
        rw [(HJ1.out hE).1, (HJ1.out hE).2] at J
        subst hE
        go_wp2_with (go_at_call 8; (with_reducible refine (J.out _ _ hb hf).mono ?_); rintro e w2 ⟨rfl, hb2⟩
                     replace hb := hb.trans (hb2.mono hb.size); clear hb2; replace y0 := (CE.out _ hb).1; replace y1 := (CE.out _ hb).2
                     )
        go_meet
        exact hb
      · have t : (E1 == 0) = false := by rw [beq_eq_false_iff_ne]; exact hE
        go_wp2
        go_meet
        exact hb
    case rest =>
      clear hb y0 y1 SP JN1 HJ1
      have hb := hcut
      have y0 := (CE.out _ hb).1
      have y1 := (CE.out _ hb).2
      clear hcut
      go_upto_if 64 with (go_at_call 8; (with_reducible refine (JN2.out _ hb).mono ?_); rintro e w2 ⟨rfl, hb2⟩
                          replace hb := hb.trans (hb2.mono hb.size); clear hb2; replace y0 := (CE.out _ hb).1; replace y1 := (CE.out _ hb).2
                          )
      go_cut [] from 25 (fun wx => Below (bxW w p m c n).heap.size (bxW w p m c n) wx)
      case first =>
        by_cases hE : E2 = 0
        · have S2 := Lib.hid (SP2.out hE)
          rw [(HS2.out hE).1, (HS2.out hE).2.1] at S2
          have SM2 := Lib.hid (SM.out hE)
          rw [(HS2.out hE).2.2.1] at SM2
          subst hE
          go_wp2_with (first
            | (go_at_call 7; (with_reducible refine (S2.out _ hb).mono ?_); rintro e w2 ⟨hb2, f2, rfl, hf2⟩
               replace hb := hb.trans (hb2.mono hb.size); clear hb2; replace y0 := (CE.out _ hb).1; replace y1 := (CE.out _ hb).2
               )
            | (go_at_call 9; (with_reducible refine (SM2.out _ _ hb hf2).mono ?_); rintro e w3 ⟨rfl, d, hd⟩
               replace hb := same_drew hb hd; clear hd y0 y1)
            )
          go_meet
          exact hb
        · have t : (E2 == 0) = false := by rw [beq_eq_false_iff_ne]; exact hE
          go_wp2
          go_meet
          exact hb
      case rest =>
        clear hb y0 y1 JN2 SP2 HS2 SM
        have hb := hcut
        have y0 := (CE.out _ hb).1
        have y1 := (CE.out _ hb).2
        clear hcut
        go_upto_region 15 with (first
          | (go_at_call 11; (with_reducible refine (QU.out _ hb).mono ?_); rintro e w2 ⟨rfl, hb2⟩
             replace hb := hb.trans (hb2.mono hb.size); clear hb2; replace y0 := (CE.out _ hb).1; replace y1 := (CE.out _ hb).2
             )
          | (go_at_call 10; (first | (with_reducible refine (UN1.out _ hb).mono ?_) | (with_reducible refine (UN2.out _ hb).mono ?_)); rintro e w2 ⟨rfl, hb2⟩
             replace hb := hb.trans (hb2.mono hb.size); clear hb2; replace y0 := (CE.out _ hb).1; replace y1 := (CE.out _ hb).2
             )
          )
        go_cut [105] from 25 (fun s105 wx => s105 = .bool false ∧ Below (bxW w p m c n).heap.size (bxW w p m c n) wx)
        case first =>
          by_cases hE : E3 = 0
          · have J := Lib.hid (QV.out hE)
            rw [HQV.out hE] at J
            subst hE
            go_wp2_with (go_at_call 11; (with_reducible refine (J.out _ hb).mono ?_); rintro e w2 ⟨rfl, hb2⟩
                         replace hb := hb.trans (hb2.mono hb.size); clear hb2; replace y0 := (CE.out _ hb).1; replace y1 := (CE.out _ hb).2
                         )
            go_meet
            exact ⟨rfl, hb⟩
          · have t : (E3 == 0) = false := by rw [beq_eq_false_iff_ne]; exact hE
            go_wp2
            go_meet
            exact ⟨rfl, hb⟩
        case rest =>
          clear hb y0 y1 QU UN1 UN2 QV HQV
          obtain ⟨rfl, hb⟩ := hcut
          have y0 := (CE.out _ hb).1
          have y1 := (CE.out _ hb).2
          go_upto_if 113 with (go_at_call 12; (with_reducible refine (LS.out _ hb).mono ?_); rintro e w2 ⟨rfl, hb2⟩
                               replace hb := hb.trans (hb2.mono hb.size); clear hb2; replace y0 := (CE.out _ hb).1; replace y1 := (CE.out _ hb).2
                               )
          go_cut [] from 25 (fun wx => Below (bxW w p m c n).heap.size (bxW w p m c n) wx)
          case first =>
            by_cases hE : E4 = 0
            · have S2 := Lib.hid PL1.out
              rw [(HP1.out hE).1, (HP1.out hE).2] at S2
              subst hE
              go_wp2_with (first
                | (go_at_call 13; (with_reducible refine (S2.out _ hb).mono ?_); rintro e w2 ⟨hb2, f2, rfl, hf2⟩
                   replace hf2 := hf2 rfl
                   replace hb := hb.trans (hb2.mono hb.size); clear hb2; replace y0 := (CE.out _ hb).1; replace y1 := (CE.out _ hb).2
                   )
                | (go_at_call 14; (with_reducible refine (LI.out _ _ hb hf2).mono ?_); rintro e w3 ⟨rfl, d, hd⟩
                   replace hb := same_drew hb hd; clear hd y0 y1)
                )
              go_meet
              exact hb
            · have t : (E4 == 0) = false := by rw [beq_eq_false_iff_ne]; exact hE
              go_wp2
              go_meet
              exact hb
          case rest =>
            clear hb y0 y1 LS PL1 HP1 LI
            have hb := hcut
            have y0 := (CE.out _ hb).1
            have y1 := (CE.out _ hb).2
            clear hcut
            go_upto_if 134 with (go_at_call 13; (with_reducible refine (PL2.out _ hb).mono ?_); rintro e w2 ⟨hb2, f5, rfl, hf5⟩
                                 replace hb := hb.trans (hb2.mono hb.size); clear hb2; replace y0 := (CE.out _ hb).1; replace y1 := (CE.out _ hb).2
                                 )
            go_cut [] from 25 (fun wx => Below (bxW w p m c n).heap.size (bxW w p m c n) wx)
            case first =>
              by_cases hE : E5 = 0
              · have J := Lib.hid (LS2.out hE)
                rw [(HP2.out hE).1, (HP2.out hE).2.1] at J
                replace hf5 := hf5 hE
                subst hE
                go_wp2_with (go_at_call 12; (with_reducible refine (J.out _ _ hb hf5).mono ?_); rintro e w2 ⟨rfl, hb2⟩
                             replace hb := hb.trans (hb2.mono hb.size); clear hb2; replace y0 := (CE.out _ hb).1; replace y1 := (CE.out _ hb).2
                             )
                go_meet
                exact hb
              · have t : (E5 == 0) = false := by rw [beq_eq_false_iff_ne]; exact hE
                go_wp2
                go_meet
                exact hb
            case rest =>
              clear hb y0 y1 PL2 HP2 LS2
              have hb := hcut
              clear hcut
              go_upto_region 27 with fail
              go_cut [23, 8] from 25 (fun s23 s8 wx => s23 = .int .i64 n ∧ s8 = .int .i64 0 ∧ Below (bxW w p m c n).heap.size (bxW w p m c n) wx)
              case first =>
                have b0 := hb.drew
                go_region_held3 (fun w' => w'.cell? ⟨w.heap.size, 1, none⟩ = some (.int .i64 n))
                  (first | (with_reducible exact (CE.out _ b0).2) | (with_reducible exact (CE.out _ b5).2) | (with_reducible exact (CE.out _ b6).2))
                  (first
                    | (go_at_call 16; (with_reducible refine (DG.out _ b0).mono ?_); rintro e w5 ⟨rfl, hb5⟩; have b5 := b0.trans (hb5.mono b0.size); clear hb5)
                    | (go_at_call 15; (with_reducible refine (IN1.out _ b5).mono ?_); rintro e w6 ⟨rfl, hb6⟩; have b6 := b5.trans (hb6.mono b5.size); clear hb6))
                all_goals
                  go_wp2_with fail
                  go_meet
                  exact ⟨rfl, rfl, b6⟩
              case rest =>
                clear hb DG IN1
                obtain ⟨rfl, rfl, hb⟩ := hcut
                have y0 := (CE.out _ hb).1
                have y1 := (CE.out _ hb).2
                by_cases hE : E6 = 0
                · have J := Lib.hid (DK.out hE)
                  rw [(HK.out hE).1] at J
                  subst hE
                  go_wp2_with (first
                    | (go_at_call 15; (with_reducible refine (IN2.out _ hb).mono ?_); rintro e w2 ⟨rfl, hb2⟩
                       replace hb := hb.trans (hb2.mono hb.size); clear hb2; replace y0 := (CE.out _ hb).1; replace y1 := (CE.out _ hb).2
                       )
                    | (go_at_call 16; (with_reducible refine (J.out _ hb).mono ?_); rintro e w2 ⟨rfl, hb2⟩
                       replace hb := hb.trans (hb2.mono hb.size); clear hb2; replace y0 := (CE.out _ hb).1; replace y1 := (CE.out _ hb).2
                       )
                    | (go_at_call 6; (with_reducible refine (SH.out _ hb).mono ?_); rintro e w2 ⟨rfl, hb2⟩
                       replace hb := hb.trans (hb2.mono hb.size); clear hb2; replace y0 := (CE.out _ hb).1; replace y1 := (CE.out _ hb).2
                       )
                    )
                  go_ret
                  exact ⟨rfl, UPP.out _ hb⟩
                · have t : (E6 == 0) = false := by rw [beq_eq_false_iff_ne]; exact hE
                  have t2 : (E6 != 0) = true := by rw [bne_iff_ne]; exact hE
                  go_wp2_with (first
                    | (go_at_call 15; (with_reducible refine (IN2.out _ hb).mono ?_); rintro e w2 ⟨rfl, hb2⟩
                       replace hb := hb.trans (hb2.mono hb.size); clear hb2; replace y0 := (CE.out _ hb).1; replace y1 := (CE.out _ hb).2
                       )
                    | (go_at_call 6; (with_reducible refine (SH.out _ hb).mono ?_); rintro e w2 ⟨rfl, hb2⟩
                       replace hb := hb.trans (hb2.mono hb.size); clear hb2; replace y0 := (CE.out _ hb).1; replace y1 := (CE.out _ hb).2
                       )
                    )
                  go_ret
                  exact ⟨rfl, UPP.out _ hb⟩
  · go_wp2_with (go_at_call 6; (with_reducible refine (SH.out _ hb).mono ?_); rintro e w2 ⟨rfl, hb2⟩
                 replace hb := hb.trans (hb2.mono hb.size); clear hb2; replace y0 := (CE.out _ hb).1; replace y1 := (CE.out _ hb).2
                 )
    go_ret
    exact ⟨rfl, UPP.out _ hb⟩
end Go.Proofs.YtoapfldmkpobmaaDoor
