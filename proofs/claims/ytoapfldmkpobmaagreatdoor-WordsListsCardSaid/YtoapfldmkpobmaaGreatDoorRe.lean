/- Layer 1: the reference's ParseList, walked: the loop over the runs. -/
import Derived.Test.YtoapfldmkpobmaaGreatDoorRa
import Derived.Test.YtoapfldmkpobmaaGreatDoorRd
import Derived.Test.YtoapfldmkpobmaaGreatDoorD
import Derived.Deep.CutRange
namespace Go.Proofs.YtoapfldmkpobmaaGreatDoor
open Go.RowKit
def plX (s : ByteArray) : List Int := if parseLE s = 0 then plS s else []
def RpPost (w : World) (s : ByteArray) (e : Ending) (w' : World) : Prop := Below w.heap.size w w' ∧ ∃ v, e = .returned (.tuple #[v, .int .i64 (parseLE s)]) ∧ ISl w' v (plX s)
theorem rp_bad {w w' : World} {s : ByteArray} {c : Int} (h : parseLE s = c) (hc : c ≠ 0) (hb : Below w.heap.size w w') : RpPost w s (.returned (.tuple #[.slice none 0 0, .int .i64 c])) w' := by
  refine ⟨hb, _, by rw [h], ?_⟩
  unfold plX
  rw [h, if_neg hc]
  exact ⟨none, 0, rfl, fun i z hz => by simp at hz⟩
theorem parts_comma (s : ByteArray) : pF 44 [] s.data.toList = (commaP s).map (·.data.toList) := by rw [pF_c_parts, commaP_list]
theorem parts_vals (L : List ByteArray) : (L.map (·.data.toList)).map strV = L.map Value.string := by
  rw [List.map_map]
  apply List.map_congr_left
  intro x _
  rfl
/-- The last number's text behind k runs. -/
def lastS (L : List ByteArray) (k : Nat) : ByteArray := if k = 0 then ⟨#[]⟩ else spL (L.getD (k - 1) ⟨#[]⟩)
theorem parts44 (s : ByteArray) (w : World) (hs : s.size ≤ 1000000000) : Calls Tryz.prog 20 #[.string s, .int .u8 44] w (PtPost w (pF 44 [] s.data.toList)) := parts_any s 44 w hs
theorem parts45 (s : ByteArray) (w : World) (hs : s.size ≤ 1000000000) : Calls Tryz.prog 20 #[.string s, .int .u8 45] w (PtPost w (pF 45 [] s.data.toList)) := parts_any s 45 w hs
theorem last_step {L : List ByteArray} {k : Nat} {x : ByteArray} (h : L[k]? = some x) : lastS L (k + 1) = spL x := by
  unfold lastS
  rw [if_neg (by omega), Nat.add_sub_cancel, List.getD_eq_getElem?_getD, h]; rfl
theorem str_take {L : List ByteArray} {k : Nat} {x : ByteArray} (f : ByteArray → ByteArray) (h : L[k]? = some x) : (L.take (k + 1)).map (fun y => Value.string (f y)) = (L.take k).map (fun y => Value.string (f y)) ++ [.string (f x)] := by
  rw [List.take_add_one, h, List.map_append]; rfl
def D9 : ByteArray := ⟨(Lib.itoa 1000000000).toArray⟩
theorem tail_err {L : List ByteArray} (h : spansB none L = true) (h1 : 1 ≤ L.length) : (lowB D9 (lastS L L.length) = true → lastE L = 7) ∧ (lowB D9 (lastS L L.length) = false → lastE L = 0) := by
  obtain ⟨z, hz⟩ : ∃ z, L[L.length - 1]? = some z := ⟨_, List.getElem?_eq_getElem (by omega)⟩
  have hl : L.getLast? = some z := by rw [List.getLast?_eq_getElem?, hz]
  have hS : lastS L L.length = spL z := by
    unfold lastS
    rw [if_neg (by omega), List.getD_eq_getElem?_getD, hz]; rfl
  have hzB := last_err.spans_mem _ _ h z (List.mem_of_getElem? hz)
  have e := (last_err L none (fun y e => by cases e) h).1
  rw [hl] at e
  have e2 : lastE L = if 1000000000 < nn (spL z) then 7 else 0 := by rw [← errL_eq hzB]; exact e
  obtain ⟨_, nl, _⟩ := sp_nats hzB
  obtain ⟨n9, v9⟩ := itoa_nat (a := 1000000000) (by decide)
  rw [hS, e2]
  constructor
  · intro hlow
    have := nat_lower (a := D9) (b := spL z) n9 nl hlow
    have e9 : natFrom 0 D9.data.toList = 1000000000 := v9
    rw [e9] at this
    rw [if_pos (by unfold nn; exact this)]
  · intro hlow
    by_cases h9 : 1000000000 < nn (spL z)
    · have := low_of_lt (a := D9) (b := spL z) n9 nl (by
        have e9 : natFrom 0 D9.data.toList = 1000000000 := v9
        rw [e9]; exact h9)
      rw [this] at hlow; cases hlow
    · rw [if_neg h9]
theorem rparse_dash (s : ByteArray) (w : World) (h45 : s.data.toList = [45]) : Calls Tryz.prog 8 #[.string s] w (RpPost w s) := by
  have hne : (s.toList == [45]) = true := by
    rw [beq_iff_eq, toList_data]; exact h45
  have hE : parseLE s = 0 := by unfold parseLE; rw [if_pos h45]
  have HX := Lib.hid (show plX s = [] by unfold plX plS; rw [if_pos hE, if_pos h45])
  have HE := Lib.hid hE
  clear hE h45
  go_enter Tryz.func8, Tryz.ntmps8
  go_wp2
  go_ret2
  exact ⟨Below.refl _ _, .slice none 0 0, by rw [HE.out]; rfl, by rw [HX.out]; exact ⟨none, 0, rfl, fun i z hz => by simp at hz⟩⟩
set_option maxHeartbeats 1600000 in
set_option maxRecDepth 100000 in
theorem rparse_any (s : ByteArray) (w : World) (hs : s.size ≤ 1000000) (h45 : s.data.toList ≠ [45]) : Calls Tryz.prog 8 #[.string s] w (RpPost w s) := by
  obtain ⟨i0, hi, hz0, hz1, hz2⟩ := info_parts info_str
  have hne : (s.toList == [45]) = false := by
    rw [beq_eq_false_iff_ne]
    intro h; exact h45 (by rw [← h]; exact (toList_data s).symm)
  have PC := Lib.hid (parts44 s w (by omega))
  unfold PtPost at PC
  rw [parts_comma, parts_vals, List.length_map] at PC
  have hsz := fun x (h : x ∈ commaP s) => Nat.le_trans (commaP_le h) hs
  have hnl := commaP_len s
  have hn1 : 1 ≤ (commaP s).length := by
    have := congrArg List.length (commaP_list s)
    rw [List.length_map] at this
    rw [this]
    exact List.length_pos_iff.2 (c_parts_ne _)
  have HPE := Lib.hid (show parseLE s = if spansB none (commaP s) = false then 6 else if lastE (commaP s) ≠ 0 then lastE (commaP s) else if 500 < manyL (commaP s) then 3 else 0 by unfold parseLE; rw [if_neg h45])
  have HPX := Lib.hid (show plX s = if parseLE s = 0 then (commaP s).flatMap seqL else [] by unfold plX plS; rw [if_neg h45])
  generalize commaP s = L at *
  obtain ⟨n, hn⟩ : ∃ n, n = L.length := ⟨_, rfl⟩
  rw [← hn] at hnl PC hn1
  have HN := Lib.hid hn
  have HSZ := Lib.hid hsz
  clear hn hsz h45
  go_enter Tryz.func8, Tryz.ntmps8
  go_wp2_with (go_at_call 20; (with_reducible refine PC.out.mono ?_); rintro e w1 ⟨hb1, v7, rfl, ho7⟩; have HO7 := Lib.hid ho7; clear ho7; obtain ⟨p7, c7, rfl⟩ := own_shape HO7.out)
  have hs1 := hb1.size
  go_loopw [4, 5, 6, 8, 9] (fun t v5 v6 i _ wr => ∃ k : Nat, k ≤ n ∧ i = .int .i64 k ∧ t = .string (lastS L k) ∧ Hid (spansB none L = spansB (prevSp L k) (L.drop k)) ∧ Hid (wr.ownsRow w1.heap.size 9 1 v5 k ((L.take k).map fun y => .string (spF y))) ∧ Hid (wr.ownsRow w1.heap.size 9 1 v6 k ((L.take k).map fun y => .string (spL y))) ∧ Hid (Sep v6 v5) ∧ Below w1.heap.size w1 wr) (fun _ _ _ i _ _ => n - (intOf i).toNat)
  case atStart => exact ⟨0, Nat.zero_le _, rfl, rfl, Lib.hid rfl, Lib.hid (by simpa using World.ownsRow_nil _ _ _ _), Lib.hid (by simpa using World.ownsRow_nil _ _ _ _), Lib.hid (.inl rfl), Below.refl _ _⟩
  case round =>
    obtain ⟨k, hk, rfl, rfl, HS, H5, H6, HSEP, hb⟩ := hrel
    have hbw := hb1.trans (hb.mono hs1)
    by_cases hlt : k < n
    · have t1 : decide ((k : Int) < (n : Int)) = true := decide_eq_true (by omega)
      have hkn : (k : Int) < (n : Int) := by omega
      have hk0 : (0 : Int) ≤ (k : Int) := by omega
      obtain ⟨x, hx⟩ : ∃ x, L[k]? = some x := ⟨_, List.getElem?_eq_getElem (by rw [← HN.out]; exact hlt)⟩
      have hxs := HSZ.out x (List.mem_of_getElem? hx)
      obtain ⟨g, cap, e, hgl, _, hc7⟩ := own_row HO7.out (by omega)
      obtain rfl : p7 = some ⟨g, 0, none⟩ := by cases e; rfl
      have hcell : wr.cell? ⟨g, k, none⟩ = some (.string x) := by
        have := hc7 k _ (by rw [List.getElem?_map, hx]; rfl)
        rw [Nat.zero_add] at this
        exact (hb.cell (p := ⟨g, k, none⟩) hgl).trans this
      have HX := Lib.hid hx
      have HAT := Lib.hid (spansB_at hx)
      have PX := Lib.hid (parts45 x wr (by omega))
      unfold PtPost at PX
      have hdc := dash_cases x
      clear hc7 e hx
      go_upto_region 10 with (go_at_call 20; (with_reducible refine PX.out.mono ?_); rintro e w2 ⟨hb2, v9, rfl, ho9⟩; have HO9 := Lib.hid ho9; clear ho9; obtain ⟨p9, c9, rfl⟩ := own_shape HO9.out)
      clear PX hcell
      have hs2 := hb2.size
      have LST := Lib.hid (last_step HX.out)
      have T5 := Lib.hid (str_take spF HX.out)
      have T6 := Lib.hid (str_take spL HX.out)
      obtain ⟨F, hF⟩ : ∃ F, F = spF x := ⟨_, rfl⟩
      obtain ⟨G, hG⟩ : ∃ G, G = spL x := ⟨_, rfl⟩
      have hFs : F.size ≤ 1000000 := by
        have l1 := (cut_le x.data.toList [45]).1
        rw [length_data] at l1
        rw [hF]; unfold spF; rw [size_mk]; omega
      have hGs : G.size ≤ 1000000 := by
        obtain ⟨l1, l2⟩ := cut_le x.data.toList [45]
        rw [length_data] at l1 l2
        rw [hG]; unfold spL spF; split <;> rw [size_mk] <;> omega
      have DF := Lib.hid (fun W => rdecimal_any F W (by unfold maxLen; omega))
      have DG := Lib.hid (fun W => rdecimal_any G W (by unfold maxLen; omega))
      have LE := Lib.hid (fun W => rless_any F G W)
      rw [← hF, ← hG] at hdc
      rw [← hG] at LST
      rw [← hF] at T5
      rw [← hG] at T6
      obtain ⟨m, hm⟩ : ∃ m, m = (pF 45 [] x.data.toList).length := ⟨_, rfl⟩
      rw [← hm] at HO9 ⊢
      rw [← hm] at hdc
      have HB := Lib.hid (show spB x = spB x from rfl)
      have HF := Lib.hid hF
      clear hF hG
      go_cut [63] from 21 to 90 (fun s63 wx => s63 = .bool (!spB x) ∧ ∃ d, wx = w2.drewN d)
      case first =>
        rcases hdc with ⟨hP, _, hq, hn⟩ | ⟨hP, hq, hnF, hnG⟩ | ⟨h3, hq⟩
        · obtain rfl : m = 1 := by rw [hm, hP]; rfl
          obtain ⟨g9, cap9, e9, _, _, hc9⟩ := own_row HO9.out (by omega)
          obtain rfl : p9 = some ⟨g9, 0, none⟩ := by cases e9; rfl
          have y0 : w2.cell? ⟨g9, 0, none⟩ = some (.string F) := hc9 0 _ (by rw [hP]; rfl)
          rw [form_nat hn] at DF
          generalize natL F.data.toList = bF at DF hq
          replace HB := Lib.hid hq
          clear hP hc9 hm hq hn e9 HO9
          cases bF
          · skip
            go_wp2
            go_quiet (first
              | (go_at_call 21; first
                | (with_reducible exact Calls.quiet_of_same ((DF.out _).mono (by rintro e w' ⟨rfl, rfl⟩; exact ⟨rfl, rfl⟩)))
                | (with_reducible exact Calls.quiet_of_same ((DG.out _).mono (by rintro e w' ⟨rfl, rfl⟩; exact ⟨rfl, rfl⟩))))
              | (go_at_call 22; exact Calls.quiet_of_same ((LE.out _).mono (by rintro e w' ⟨rfl, rfl⟩; exact ⟨rfl, rfl⟩))))
            go_wp2
            go_meet
            exact ⟨by rw [HB.out]; rfl, _, rfl⟩
          · skip
            go_wp2
            go_quiet (first
              | (go_at_call 21; first
                | (with_reducible exact Calls.quiet_of_same ((DF.out _).mono (by rintro e w' ⟨rfl, rfl⟩; exact ⟨rfl, rfl⟩)))
                | (with_reducible exact Calls.quiet_of_same ((DG.out _).mono (by rintro e w' ⟨rfl, rfl⟩; exact ⟨rfl, rfl⟩))))
              | (go_at_call 22; exact Calls.quiet_of_same ((LE.out _).mono (by rintro e w' ⟨rfl, rfl⟩; exact ⟨rfl, rfl⟩))))
            go_wp2
            go_meet
            exact ⟨by rw [HB.out]; rfl, _, rfl⟩
        · obtain rfl : m = 2 := by rw [hm, hP]; rfl
          obtain ⟨g9, cap9, e9, _, _, hc9⟩ := own_row HO9.out (by omega)
          obtain rfl : p9 = some ⟨g9, 0, none⟩ := by cases e9; rfl
          have y0 : w2.cell? ⟨g9, 0, none⟩ = some (.string F) := hc9 0 _ (by rw [hP]; rfl)
          have y1 : w2.cell? ⟨g9, 1, none⟩ = some (.string G) := hc9 1 _ (by rw [hP]; rfl)
          rw [form_nat hnF] at DF
          rw [form_nat hnG] at DG
          generalize natL F.data.toList = bF at DF hq
          generalize natL G.data.toList = bG at DG hq
          generalize lowB F G = bL at LE hq
          replace HB := Lib.hid hq
          clear hP hc9 hm hq hnF hnG e9 HO9
          cases bF
          · skip
            go_wp2
            go_quiet (first
              | (go_at_call 21; first
                | (with_reducible exact Calls.quiet_of_same ((DF.out _).mono (by rintro e w' ⟨rfl, rfl⟩; exact ⟨rfl, rfl⟩)))
                | (with_reducible exact Calls.quiet_of_same ((DG.out _).mono (by rintro e w' ⟨rfl, rfl⟩; exact ⟨rfl, rfl⟩))))
              | (go_at_call 22; exact Calls.quiet_of_same ((LE.out _).mono (by rintro e w' ⟨rfl, rfl⟩; exact ⟨rfl, rfl⟩))))
            go_wp2
            go_meet
            exact ⟨by rw [HB.out]; rfl, _, rfl⟩
          · cases bG
            · skip
              go_wp2
              go_quiet (first
                | (go_at_call 21; first
                  | (with_reducible exact Calls.quiet_of_same ((DF.out _).mono (by rintro e w' ⟨rfl, rfl⟩; exact ⟨rfl, rfl⟩)))
                  | (with_reducible exact Calls.quiet_of_same ((DG.out _).mono (by rintro e w' ⟨rfl, rfl⟩; exact ⟨rfl, rfl⟩))))
                | (go_at_call 22; exact Calls.quiet_of_same ((LE.out _).mono (by rintro e w' ⟨rfl, rfl⟩; exact ⟨rfl, rfl⟩))))
              go_wp2
              go_meet
              exact ⟨by rw [HB.out]; rfl, _, rfl⟩
            · cases bL
              · skip
                go_wp2
                go_quiet (first
                  | (go_at_call 21; first
                    | (with_reducible exact Calls.quiet_of_same ((DF.out _).mono (by rintro e w' ⟨rfl, rfl⟩; exact ⟨rfl, rfl⟩)))
                    | (with_reducible exact Calls.quiet_of_same ((DG.out _).mono (by rintro e w' ⟨rfl, rfl⟩; exact ⟨rfl, rfl⟩))))
                  | (go_at_call 22; exact Calls.quiet_of_same ((LE.out _).mono (by rintro e w' ⟨rfl, rfl⟩; exact ⟨rfl, rfl⟩))))
                go_wp2
                go_meet
                exact ⟨by rw [HB.out]; rfl, _, rfl⟩
              · skip
                go_wp2
                go_quiet (first
                  | (go_at_call 21; first
                    | (with_reducible exact Calls.quiet_of_same ((DF.out _).mono (by rintro e w' ⟨rfl, rfl⟩; exact ⟨rfl, rfl⟩)))
                    | (with_reducible exact Calls.quiet_of_same ((DG.out _).mono (by rintro e w' ⟨rfl, rfl⟩; exact ⟨rfl, rfl⟩))))
                  | (go_at_call 22; exact Calls.quiet_of_same ((LE.out _).mono (by rintro e w' ⟨rfl, rfl⟩; exact ⟨rfl, rfl⟩))))
                go_wp2
                go_meet
                exact ⟨by rw [HB.out]; rfl, _, rfl⟩
        · have ht : decide ((2 : Int) < (m : Int)) = true := decide_eq_true (by omega)
          have ht2 : 2 < m := by omega
          have ht3 : decide (2 < m) = true := decide_eq_true ht2
          replace HB := Lib.hid hq
          clear hm hq h3 HO9
          go_wp2
          go_wp2
          go_quiet (first
            | (go_at_call 21; first
              | (with_reducible exact Calls.quiet_of_same ((DF.out _).mono (by rintro e w' ⟨rfl, rfl⟩; exact ⟨rfl, rfl⟩)))
              | (with_reducible exact Calls.quiet_of_same ((DG.out _).mono (by rintro e w' ⟨rfl, rfl⟩; exact ⟨rfl, rfl⟩))))
            | (go_at_call 22; exact Calls.quiet_of_same ((LE.out _).mono (by rintro e w' ⟨rfl, rfl⟩; exact ⟨rfl, rfl⟩))))
          go_wp2
          go_meet
          exact ⟨by rw [HB.out]; rfl, _, rfl⟩
      case rest =>
        obtain ⟨rfl, d, rfl⟩ := hcut
        obtain ⟨w3, hw3⟩ : ∃ w3, w3 = w2.drewN d := ⟨_, rfl⟩
        have hb23 : Below w2.heap.size w2 w3 := by rw [hw3]; exact below_drewN (Below.refl _ _) d
        rw [← hw3]
        clear hw3
        have hbw3 := hbw.trans ((hb2.trans (hb23.mono hs2)).mono hbw.size)
        obtain ⟨q, hq⟩ : ∃ q, spB x = q := ⟨_, rfl⟩
        rw [hq] at HAT ⊢
        cases q
        · have HE6 := Lib.hid (show parseLE s = 6 by rw [HPE.out, if_pos (by rw [HS.out, HAT.out]; rfl)])
          clear HB hq hdc
          go_wp2
          go_ret2
          exact rp_bad HE6.out (by decide) hbw3
        · obtain ⟨hm1, hPm⟩ : (1 ≤ m ∧ m ≤ 2) ∧ (pF 45 [] x.data.toList)[0]? = some F.data.toList ∧ (pF 45 [] x.data.toList)[m - 1]? = some G.data.toList := by
            rcases hdc with ⟨hP, hGF, _⟩ | ⟨hP, _⟩ | ⟨_, h0⟩
            · have : m = 1 := by rw [hm, hP]; rfl
              rw [this, hP, hGF]
              exact ⟨⟨by decide, by decide⟩, rfl, rfl⟩
            · have : m = 2 := by rw [hm, hP]; rfl
              rw [this, hP]
              exact ⟨⟨by decide, by decide⟩, rfl, rfl⟩
            · rw [hq] at h0; cases h0
          obtain ⟨g9, cap9, e9, hg9, _, hc9⟩ := own_row HO9.out hm1.1
          obtain rfl : p9 = some ⟨g9, 0, none⟩ := by cases e9; rfl
          obtain ⟨j, hj⟩ : ∃ j, j + 1 = m := ⟨m - 1, by omega⟩
          have z0 : w2.cell? ⟨g9, 0, none⟩ = some (.string F) := hc9 0 _ (by rw [List.getElem?_map, hPm.1]; rfl)
          have zl : w2.cell? ⟨g9, j, none⟩ = some (.string G) := by
            have := hc9 j (.string G) (by rw [List.getElem?_map, show j = m - 1 by omega, hPm.2]; rfl)
            rwa [Nat.zero_add] at this
          have z0' := (hb23.cell (p := ⟨g9, 0, none⟩) hg9).trans z0
          have zl' := (hb23.cell (p := ⟨g9, j, none⟩) hg9).trans zl
          have hg93 : g9 < w3.heap.size := Nat.lt_of_lt_of_le hg9 hb23.size
          have CL := Lib.hid (fun W (h : Below w3.heap.size w3 W) => And.intro ((h.cell (p := ⟨g9, 0, none⟩) hg93).trans z0') ((h.cell (p := ⟨g9, j, none⟩) hg93).trans zl'))
          have hwm : IntKind.i64.wrap ((m : Int) - 1) = (j : Int) := by rw [IntWalk.i64_in _ (by omega)]; omega
          have j0 : (0 : Int) ≤ (j : Int) := by omega
          have j1 : (j : Int) < (m : Int) := by omega
          have j2 : (0 : Int) < (m : Int) := by omega
          have j3 : 0 < m := by omega
          clear HB hq hdc hPm hc9 e9 HO9 hm z0 zl zl' DF DG LE hm1
          by_cases hk1 : k = 0
          · have b5 : decide ((0 : Int) < (k : Int)) = false := decide_eq_false (by omega)
            have b6 : ¬ 0 < k := by omega
            have b7 : decide (0 < k) = false := decide_eq_false b6
            have HN2 := Lib.hid (show spansB none L = spansB (prevSp L (k + 1)) (L.drop (k + 1)) by
              rw [HS.out, HAT.out]; unfold prevSp; rw [if_pos hk1]; simp)
            clear hk1 z0'
            go_upto_region 12 with fail
            go_quiet (fail)
            obtain ⟨w5, hw5⟩ : ∃ w5, w5 = w3.drewN nq := ⟨_, rfl⟩
            have hb5 : Below w3.heap.size w3 w5 := by rw [hw5]; exact below_drewN (Below.refl _ _) nq
            rw [← hw5]
            clear hw5
            obtain ⟨y0, yl⟩ := CL.out w5 hb5
            have hb35 := hb23.trans (hb5.mono hb23.size)
            have hbD : Below wr.heap.size wr w5 := hb2.trans (hb35.mono hs2)
            have o5 := Lib.hid (H5.out.kept (grown_of_below hbD) (own_some H5.out))
            have o6 := Lib.hid (H6.out.kept (grown_of_below hbD) (own_some H6.out))
            have hbE := hb.trans (hbD.mono hb.size)
            have hs5 := hbE.size
            clear hb5 hb35 hbD CL hb23
            go_wp2_with (first
              | (at_builtin; refine wpList_append_own_at _ rfl _ _ 41 rfl w1.heap.size 9 i0 (.string ⟨#[]⟩) 1 16 Tryz.underlying41 hi hz0 hz1 hz2 rfl (by decide) _ k _ rfl (o5.out.alloc _) ⟨w5.heap.size, 0, none⟩ 1 1 [.string F] rfl rfl (cell_one_new _ _ _) (by simp [Value.oneCell']) (by simp only [maxLen]; omega) (by omega) (by simp; omega) ?_
                 intro v5 w6 q6 hgr6 _ hob6
                 have z7 := o6.out.alloc (.cells #[.string F] 9)
                 have S1 := Lib.hid (Sep.step HSEP.out z7 hob6)
                 have p7 := Lib.hid (z7.kept hgr6 HSEP.out)
                 have P6 := Lib.hid q6
                 have hb6 : Below w1.heap.size w1 w6 := (hbE.alloc hs5 _).grown hgr6 (by simp; omega) (fun j e => own_ge o5.out e)
                 have hs6 := hb6.size
                 clear z7 hob6 q6 hgr6 hbE o5 o6)
              | (at_builtin; refine wpList_append_own_at _ rfl _ _ 41 rfl w1.heap.size 9 i0 (.string ⟨#[]⟩) 1 16 Tryz.underlying41 hi hz0 hz1 hz2 rfl (by decide) _ k _ rfl (p7.out.alloc _) ⟨w6.heap.size, 0, none⟩ 1 1 [.string G] rfl rfl (cell_one_new _ _ _) (by simp [Value.oneCell']) (by simp only [maxLen]; omega) (by omega) (by simp; omega) ?_
                 intro v6 w7 q7 hgr7 _ hob7
                 have z6 := P6.out.alloc (.cells #[.string G] 9)
                 have S2 := Lib.hid (Sep.step S1.out.symm z6 hob7)
                 have p6 := Lib.hid (z6.kept hgr7 S1.out.symm)
                 have P7 := Lib.hid q7
                 have hb7 : Below w1.heap.size w1 w7 := (hb6.alloc hs6 _).grown hgr7 (by simp; omega) (fun j e => own_ge p7.out e)
                 clear z6 hob7 q7 hgr7 hb6 P6 p7)
              )
            go_roundw
            case rel => exact ⟨k + 1, by omega, by go_num, by rw [LST.out], HN2, Lib.hid (by rw [T5.out]; exact p6.out), Lib.hid (by rw [T6.out]; exact P7.out), Lib.hid S2.out.symm, hb7⟩
            case measure => simp [intOf]; omega
          · have b5 : decide ((0 : Int) < (k : Int)) = true := decide_eq_true (by omega)
            have b6 : 0 < k := by omega
            have b7 : decide (0 < k) = true := decide_eq_true b6
            have hPS : prevSp L k = some (lastS L k) := by unfold prevSp lastS; rw [if_neg hk1, if_neg hk1]
            have HN2 := Lib.hid (show spansB none L = (lowB (sucS (lastS L k)) F && spansB (prevSp L (k + 1)) (L.drop (k + 1))) by
              rw [HS.out, HAT.out, hPS, HF.out]; simp)
            have hYs : (lastS L k).size ≤ 4000000000 := by
              unfold lastS
              rw [if_neg hk1]
              obtain ⟨y, hy⟩ : ∃ y, L[k - 1]? = some y := ⟨_, List.getElem?_eq_getElem (by rw [← HN.out]; omega)⟩
              have hys := HSZ.out y (List.mem_of_getElem? hy)
              rw [List.getD_eq_getElem?_getD, hy]
              obtain ⟨l1, l2⟩ := cut_le y.data.toList [45]
              rw [length_data] at l1 l2
              show (spL y).size ≤ _
              unfold spL spF; split <;> rw [size_mk] <;> omega
            have SUY := Lib.hid (fun W => rnext_any (lastS L k) W hYs)
            have LOY := Lib.hid (fun W => rless_any (sucS (lastS L k)) F W)
            unfold SucPost at SUY
            generalize sucS (lastS L k) = Z at *
            obtain ⟨q, hq⟩ : ∃ q, lowB Z F = q := ⟨_, rfl⟩
            rw [hq] at LOY HN2
            clear hq hk1 hPS
            go_upto_region 12 with fail
            cases q
            · have HE6 := Lib.hid (show parseLE s = 6 by rw [HPE.out, if_pos (by rw [HN2.out]; rfl)])
              refine wp_region_below (w := w3) (Nat.le_refl _) (by kernel_rfl) (by kernel_rfl) ?_
              repeat (first
                | go_big_quiet_skip
                | (go_big_quiet_want; (first
                    | ((refine quiet_str _ rfl _ rfl _ z0' hg93 ?_); simp only [Act.put, List.setIfInBounds_toArray, List.set_cons_succ, List.set_cons_zero]; go_big_quiet_on)
                    | (go_big_quiet_op; (first
                        | go_big_quiet_on
                        | (refine ⟨_, fun _ _ => rfl, ?_⟩; go_big_quiet_on)
                        | (apply Exists.intro; refine ⟨fun w9 hw9 => ?_, ?_⟩; (focus ((first | (go_at_call 23; exact Calls.quiet_below (SUY.out _) hw9 (Nat.le_refl _) (fun _ _ h => h)) | (go_at_call 22; exact Calls.quiet_below (LOY.out _) hw9 (Nat.le_refl _) (fun _ _ h => ⟨h.1, by rw [← h.2]; exact Below.refl _ _⟩))))); go_big_quiet_on))))))
              refine wpQuiet_nil ?_
              intro w5 hb5
              go_wp2
              go_ret2
              exact rp_bad HE6.out (by decide) (hbw3.trans (hb5.mono hbw3.size))
            · replace HN2 := Lib.hid (show spansB none L = spansB (prevSp L (k + 1)) (L.drop (k + 1)) by rw [HN2.out]; rfl)
              refine wp_region_below (w := w3) (Nat.le_refl _) (by kernel_rfl) (by kernel_rfl) ?_
              repeat (first
                | go_big_quiet_skip
                | (go_big_quiet_want; (first
                    | ((refine quiet_str _ rfl _ rfl _ z0' hg93 ?_); simp only [Act.put, List.setIfInBounds_toArray, List.set_cons_succ, List.set_cons_zero]; go_big_quiet_on)
                    | (go_big_quiet_op; (first
                        | go_big_quiet_on
                        | (refine ⟨_, fun _ _ => rfl, ?_⟩; go_big_quiet_on)
                        | (apply Exists.intro; refine ⟨fun w9 hw9 => ?_, ?_⟩; (focus ((first | (go_at_call 23; exact Calls.quiet_below (SUY.out _) hw9 (Nat.le_refl _) (fun _ _ h => h)) | (go_at_call 22; exact Calls.quiet_below (LOY.out _) hw9 (Nat.le_refl _) (fun _ _ h => ⟨h.1, by rw [← h.2]; exact Below.refl _ _⟩))))); go_big_quiet_on))))))
              refine wpQuiet_nil ?_
              intro w5 hb5
              clear z0'
              obtain ⟨y0, yl⟩ := CL.out w5 hb5
              have hb35 := hb23.trans (hb5.mono hb23.size)
              have hbD : Below wr.heap.size wr w5 := hb2.trans (hb35.mono hs2)
              have o5 := Lib.hid (H5.out.kept (grown_of_below hbD) (own_some H5.out))
              have o6 := Lib.hid (H6.out.kept (grown_of_below hbD) (own_some H6.out))
              have hbE := hb.trans (hbD.mono hb.size)
              have hs5 := hbE.size
              clear hb5 hb35 hbD CL hb23
              go_wp2_with (first
                | (at_builtin; refine wpList_append_own_at _ rfl _ _ 41 rfl w1.heap.size 9 i0 (.string ⟨#[]⟩) 1 16 Tryz.underlying41 hi hz0 hz1 hz2 rfl (by decide) _ k _ rfl (o5.out.alloc _) ⟨w5.heap.size, 0, none⟩ 1 1 [.string F] rfl rfl (cell_one_new _ _ _) (by simp [Value.oneCell']) (by simp only [maxLen]; omega) (by omega) (by simp; omega) ?_
                   intro v5 w6 q6 hgr6 _ hob6
                   have z7 := o6.out.alloc (.cells #[.string F] 9)
                   have S1 := Lib.hid (Sep.step HSEP.out z7 hob6)
                   have p7 := Lib.hid (z7.kept hgr6 HSEP.out)
                   have P6 := Lib.hid q6
                   have hb6 : Below w1.heap.size w1 w6 := (hbE.alloc hs5 _).grown hgr6 (by simp; omega) (fun j e => own_ge o5.out e)
                   have hs6 := hb6.size
                   clear z7 hob6 q6 hgr6 hbE o5 o6)
                | (at_builtin; refine wpList_append_own_at _ rfl _ _ 41 rfl w1.heap.size 9 i0 (.string ⟨#[]⟩) 1 16 Tryz.underlying41 hi hz0 hz1 hz2 rfl (by decide) _ k _ rfl (p7.out.alloc _) ⟨w6.heap.size, 0, none⟩ 1 1 [.string G] rfl rfl (cell_one_new _ _ _) (by simp [Value.oneCell']) (by simp only [maxLen]; omega) (by omega) (by simp; omega) ?_
                   intro v6 w7 q7 hgr7 _ hob7
                   have z6 := P6.out.alloc (.cells #[.string G] 9)
                   have S2 := Lib.hid (Sep.step S1.out.symm z6 hob7)
                   have p6 := Lib.hid (z6.kept hgr7 S1.out.symm)
                   have P7 := Lib.hid q7
                   have hb7 : Below w1.heap.size w1 w7 := (hb6.alloc hs6 _).grown hgr7 (by simp; omega) (fun j e => own_ge p7.out e)
                   clear z6 hob7 q7 hgr7 hb6 P6 p7)
                )
              go_roundw
              case rel => exact ⟨k + 1, by omega, by go_num, by rw [LST.out], HN2, Lib.hid (by rw [T5.out]; exact p6.out), Lib.hid (by rw [T6.out]; exact P7.out), Lib.hid S2.out.symm, hb7⟩
              case measure => simp [intOf]; omega
    · obtain rfl : k = n := by omega
      have t1 : decide ((k : Int) < (k : Int)) = false := decide_eq_false (by omega)
      have hSp : spansB none L = true := by
        rw [HS.out, List.drop_of_length_le (by rw [HN.out]; exact Nat.le_refl _)]
        cases prevSp L k <;> rfl
      have hTE := tail_err hSp (by rw [← HN.out]; exact hn1)
      rw [← HN.out] at hTE
      have hPE1 := HPE.out
      rw [hSp, if_neg (by simp)] at hPE1
      rw [List.take_of_length_le (by rw [HN.out]; exact Nat.le_refl _)] at H5 H6
      have DG := Lib.hid (fun W => rdigits_any 1000000000 (by decide) (by decide) W)
      have hD : (⟨(Lib.itoa 1000000000).toArray⟩ : ByteArray) = D9 := rfl
      rw [hD] at DG
      have LE := Lib.hid (fun W => rless_any D9 (lastS L k) W)
      obtain ⟨q, hq⟩ : ∃ q, lowB D9 (lastS L k) = q := ⟨_, rfl⟩
      rw [hq] at LE hTE
      generalize D9 = D at *
      obtain ⟨Y, hY⟩ : ∃ Y, Y = lastS L k := ⟨_, rfl⟩
      rw [← hY] at LE ⊢
      clear hq hY hD HS HO7
      obtain ⟨a5, c5, rfl⟩ := own_shape H5.out
      obtain ⟨a6, c6, rfl⟩ := own_shape H6.out
      cases q
      · have hE0 := hTE.2 rfl
        rw [hE0, if_neg (by simp)] at hPE1
        have HALL := spans_all L none hSp hE0
        have HLE : ∀ x ∈ L, numF x ≤ numL x := fun x hx => num_le (HALL x hx).1 (HALL x hx).2
        have hSL := seq_len L HLE
        have HPE1 := Lib.hid hPE1
        have HSL := Lib.hid hSL
        replace HLE := Lib.hid HLE
        clear hTE hE0 hPE1 hSL HALL hSp
        go_wp2_with (first
          | (go_at_call 18; (with_reducible refine (DG.out _).mono ?_); rintro e w3 ⟨rfl, hb3⟩)
          | (go_at_call 22; (with_reducible refine (LE.out _).mono ?_); rintro e w4 ⟨rfl, rfl⟩))
        obtain ⟨w3, rfl⟩ : ∃ w, w = w3 := ⟨_, rfl⟩
        have hb3s := hb3.size
        have hbw3 := hbw.trans (hb3.mono hbw.size)
        clear DG LE t1
        obtain ⟨wz, rfl⟩ : ∃ wz, wz = wr := ⟨_, rfl⟩
        obtain ⟨i2, hy, hy0, hy1, hy2⟩ := info_parts info_int
        go_loopw [10, 11, 12, 13, 14, 15, 16] (fun v i _ _ _ _ _ wx => ∃ t : Nat, t ≤ k ∧ i = .int .i64 t ∧ Hid (wx.ownsRow w3.heap.size 3 1 v ((L.take t).flatMap seqL).length (((L.take t).flatMap seqL).map i64v)) ∧ ((L.take t).flatMap seqL).length ≤ 500 ∧ Below w3.heap.size w3 wx) (fun _ i _ _ _ _ _ _ => k - (intOf i).toNat)
        case atStart => exact ⟨0, Nat.zero_le _, rfl, Lib.hid (by simpa using World.ownsRow_nil _ _ _ _), by simp, Below.refl _ _⟩
        case round =>
          obtain ⟨t, ht, rfl, hv, hp5, hb2⟩ := hrel
          obtain ⟨w2, rfl⟩ : ∃ w2, w2 = wr := ⟨_, rfl⟩
          by_cases htj : t < k
          · have htb : decide ((t : Int) < (k : Int)) = true := decide_eq_true (by omega)
            have htn : (t : Int) < (k : Int) := by omega
            have ht0 : (0 : Int) ≤ (t : Int) := by omega
            obtain ⟨x, hx⟩ : ∃ x, L[t]? = some x := ⟨_, List.getElem?_eq_getElem (by rw [← HN.out]; exact htj)⟩
            have hxs := HSZ.out x (List.mem_of_getElem? hx)
            obtain ⟨g5, cap5, e5, lt5, _, hc5⟩ := own_row H5.out (by omega)
            obtain ⟨g6, cap6, e6, lt6, _, hc6⟩ := own_row H6.out (by omega)
            obtain rfl : a5 = some ⟨g5, 0, none⟩ := by cases e5; rfl
            obtain rfl : a6 = some ⟨g6, 0, none⟩ := by cases e6; rfl
            have hbz2 := hb3.trans (hb2.mono hb3s)
            have y5 : w2.cell? ⟨g5, t, none⟩ = some (.string (spF x)) := by
              have := hc5 t _ (by rw [List.getElem?_map, hx]; rfl)
              rw [Nat.zero_add] at this
              exact (hbz2.cell (p := ⟨g5, t, none⟩) lt5).trans this
            have y6 : w2.cell? ⟨g6, t, none⟩ = some (.string (spL x)) := by
              have := hc6 t _ (by rw [List.getElem?_map, hx]; rfl)
              rw [Nat.zero_add] at this
              exact (hbz2.cell (p := ⟨g6, t, none⟩) lt6).trans this
            obtain ⟨l1, l2⟩ := cut_le x.data.toList [45]
            rw [length_data] at l1 l2
            have hFs : (spF x).size ≤ maxLen := by unfold spF maxLen; rw [size_mk]; omega
            have hGs : (spL x).size ≤ maxLen := by unfold spL spF maxLen; split <;> rw [size_mk] <;> omega
            have IF := Lib.hid (fun W => rint_any (spF x) 0 1000000000 (by decide) (by decide) W hFs)
            have IL := Lib.hid (fun W => rint_any (spL x) 0 1000000000 (by decide) (by decide) W hGs)
            rw [show intV (spF x).data.toList 0 1000000000 = numF x from rfl] at IF
            rw [show intV (spL x).data.toList 0 1000000000 = numL x from rfl] at IL
            have n1 : (0 : Int) ≤ numF x ∧ numF x ≤ 1000000000 := intV_rng _
            have n2 : (0 : Int) ≤ numL x ∧ numL x ≤ 1000000000 := intV_rng _
            have hab := HLE.out x (List.mem_of_getElem? hx)
            have hst := seq_take hx
            have hl5 := seq_le L (t + 1)
            rw [hst, List.length_append] at hl5
            have hsx : seqL x = upL (numF x) (numL x - numF x + 1).toNat := rfl
            have hM := HSL.out
            generalize (L.flatMap seqL).length = tot at hl5 hM
            generalize intE (spF x).data.toList 0 1000000000 = ef at IF
            generalize intE (spL x).data.toList 0 1000000000 = el at IL
            generalize seqL x = sx at *
            generalize numF x = a at *
            generalize numL x = b at *
            generalize spF x = F at *
            generalize spL x = G at *
            obtain ⟨T, hT⟩ : ∃ T : Nat, (T : Int) = b - a + 1 := ⟨(b - a + 1).toNat, by omega⟩
            rw [show (b - a + 1).toNat = T by omega] at hsx
            subst hsx
            rw [upL_len] at hl5
            have HST := Lib.hid hst
            generalize hpre : (L.take t).flatMap seqL = pre at *
            have HE3 := Lib.hid (show ∀ q, q < T → pre.length + q = 500 → parseLE s = 3 from fun q h1 h2 => by rw [HPE1.out, if_pos (by omega)])
            clear hst hx hc5 hc6 e5 e6 hpre hM hFs hGs l1 l2
            go_wp2_with (go_at_call 24; first
              | ((with_reducible refine (IF.out _).mono ?_); rintro e w4 ⟨rfl, rfl⟩)
              | ((with_reducible refine (IL.out _).mono ?_); rintro e w4 ⟨rfl, rfl⟩))
            go_loopw [10, 16] (fun v z wx => ∃ q : Nat, q ≤ T ∧ z = .int .i64 (a + (q : Int)) ∧ Hid (wx.ownsRow w3.heap.size 3 1 v (pre.length + q) ((pre ++ upL a q).map i64v)) ∧ pre.length + q ≤ 500 ∧ Below w3.heap.size w3 wx) (fun _ z _ => (b + 1 - intOf z).toNat)
            case atStart => exact ⟨0, Nat.zero_le _, by simp, Lib.hid (by simpa [upL] using hv.out), hp5, hb2⟩
            case round =>
              clear hv y5 y6 hp5
              obtain ⟨q, hq, rfl, hv, hp5, hb4⟩ := hrel
              obtain ⟨w4, rfl⟩ : ∃ w4, w4 = wr := ⟨_, rfl⟩
              have hs4 := hb4.size
              by_cases hqT : q < T
              · have hqb : decide (a + (q : Int) ≤ b) = true := decide_eq_true (by omega)
                have hqc : a + (q : Int) ≤ b := by omega
                have hwq : IntKind.i64.wrap (a + (q : Int) + 1) = a + (q : Int) + 1 := IntWalk.i64_in _ (by omega)
                obtain ⟨av, cv, hev⟩ := own_shape hv.out
                subst hev
                by_cases h500 : pre.length + q = 500
                · have h3 := Lib.hid (HE3.out q hqT h500)
                  rw [h500] at hv ⊢
                  clear h500
                  go_wp2
                  go_ret2
                  exact rp_bad h3.out (by decide) (hbw3.trans (hb4.mono hbw3.size))
                · have h5b : (((pre.length + q : Nat) : Int) == 500) = false := by rw [beq_eq_false_iff_ne]; omega
                  obtain ⟨m, hm⟩ : ∃ m, m = pre.length + q := ⟨_, rfl⟩
                  rw [← hm] at hv h5b ⊢
                  have hm5 : m < 500 := by omega
                  have HM := Lib.hid hm
                  clear hm h500
                  go_upto_if 124 with fail
                  generalize (Value.slice av m cv) = V at *
                  go_wp2_with (at_builtin; refine wpList_append_own _ rfl _ _ 22 rfl w3.heap.size 3 i2 (.int .i64 0) 1 8 Tryz.underlying22 hy hy0 hy1 hy2 rfl (by decide) _ m _ rfl (hv.out.alloc _) ⟨_, 0, none⟩ 1 1 [i64v (a + (q : Int))] rfl rfl (cell_one_new _ _ _) (by simp [i64v, Value.oneCell']) (by simp only [maxLen]; omega) (by omega) (by simp; omega) ?_; intro v4 w5 q4 hgr4 _; have HO4 := Lib.hid q4; have hb5 : Below w3.heap.size w3 w5 := (hb4.alloc hs4 _).grown hgr4 (by simp; omega) (fun j e => own_ge hv.out e); clear q4 hgr4)
                  go_roundw
                  case rel => exact ⟨q + 1, by omega, by go_num, Lib.hid (by rw [upL_succ, ← List.append_assoc, List.map_append, ← Nat.add_assoc, ← HM.out]; exact HO4.out), by have := HM.out; omega, hb5⟩
                  case measure => simp only [intOf]; omega
              · obtain rfl : q = T := by omega
                have hqb : decide (a + (q : Int) ≤ b) = false := decide_eq_false (by omega)
                have hqc : ¬ a + (q : Int) ≤ b := by omega
                go_wp2
                go_roundw
                case rel => exact ⟨t + 1, by omega, by go_num, Lib.hid (by rw [HST.out, List.length_append, upL_len]; exact hv.out), by rw [HST.out, List.length_append, upL_len]; exact hp5, hb4⟩
                case measure => simp [intOf]; omega
          · obtain rfl : t = k := by omega
            have htb : decide ((t : Int) < (t : Int)) = false := decide_eq_false (by omega)
            rw [List.take_of_length_le (by rw [HN.out]; exact Nat.le_refl _)] at hv hp5
            have HE0 := Lib.hid (show parseLE s = 0 by rw [HPE1.out, if_neg (by rw [← HSL.out]; omega)])
            have hbw2 := hbw3.trans (hb2.mono hbw3.size)
            go_wp2
            go_ret2
            refine ⟨hbw2, _, by rw [HE0.out]; rfl, ?_⟩
            rw [HPX.out, if_pos HE0.out]
            exact ISl.of_own hv.out
      · have HE7 := Lib.hid (show parseLE s = 7 by rw [hPE1, hTE.1 rfl]; rfl)
        go_wp2_with (first
          | (go_at_call 18; (with_reducible refine (DG.out _).mono ?_); rintro e w3 ⟨rfl, hb3⟩)
          | (go_at_call 22; (with_reducible refine (LE.out _).mono ?_); rintro e w4 ⟨rfl, rfl⟩))
        go_ret2
        exact rp_bad HE7.out (by decide) (hbw.trans (hb3.mono hbw.size))
end Go.Proofs.YtoapfldmkpobmaaGreatDoor
