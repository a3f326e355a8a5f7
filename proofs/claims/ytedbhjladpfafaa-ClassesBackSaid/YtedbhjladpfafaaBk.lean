/- Layer 3: what is printed is read; the runs. -/
import Derived.Test.YtedbhjladpfafaaX
import Derived.Test.YtedbhjladpfafaaY
import Derived.Test.YtedbhjladpfafaaSm
import Derived.Test.YtedbhjladpfafaaMk
import Derived.Test.YtedbhjladpfafaaBp
import Derived.Deep.CutRange
import Derived.Deep.RegionHeld3
namespace Go.Proofs.Ytedbhjladpfafaa
open Go.RowKit
attribute [local go_sem] eq4 guard4 run_setStore isSet_a isSet_b isSet_c isSet_row
theorem sv_congr {q p : Nat → Bool} (h : ∀ i, i < 256 → q i = p i) : sv q = sv p := congrArg Value.agg (sc_congr h)
def textP (p : Nat → Bool) : ByteArray := ⟨(printB p).toArray⟩
theorem textP_data (p : Nat → Bool) : (textP p).data.toList = printB p := rfl
theorem textP_size (p : Nat → Bool) : (textP p).size = (printB p).length := by rw [← length_data, textP_data]
theorem bk_print (p : Nat → Bool) (w : World) : Calls Try.prog 37 #[sv p] w fun e w' => e = .returned (.string (textP p)) ∧ Below w.heap.size w w' := print_any p w
theorem bk_parse (p : Nat → Bool) (w : World) : Calls Try.prog 38 #[.string (textP p)] w fun e w' => e = .returned (.tuple #[sv p, .int .i64 0, .int .i64 0]) ∧ Below w.heap.size w w' :=
  (parse_any (textP p) w (by rw [textP_size]; have := printB_len p; omega)).mono fun _ _ h => by
    obtain ⟨q, hq, he⟩ := parse_print p
    refine ⟨?_, h.2⟩
    rw [h.1, textP_data, he]
    simp only [sv_congr hq]
    rfl
theorem bk_prefix (p : Nat → Bool) (b : ByteArray) (hb : b.size ≤ 200) (w : World) : Calls Try.prog 39 #[.string (textP p ++ b)] w fun e w' => e = .returned (.tuple #[sv p, .int .i64 ((textP p).size : Int), .int .i64 0]) ∧ Below w.heap.size w w' :=
  (prefix_any (textP p ++ b) w (by rw [ByteArray.size_append, textP_size]; have := printB_len p; omega)).mono fun _ _ h => by
    obtain ⟨q, hq, he⟩ := pref_print p b.data.toList
    refine ⟨?_, h.2⟩
    rw [h.1, show (textP p ++ b).data.toList = printB p ++ b.data.toList by rw [← textP_data]; simp, he, textP_size]
    simp only [sv_congr hq]
theorem inR_succ {rs : List (Nat × Nat)} {k lo hi : Nat} (h : rs[k]? = some (lo, hi)) (hl : lo ≤ hi) (hc : hi < 256) (i : Nat) : (inR (rs.take k) i || rngP lo hi i) = inR (rs.take (k + 1)) i := by
  unfold inR
  rw [List.take_add_one, h, List.any_append, rng_in hl hc]
  simp
theorem runs_gap {p : Nat → Bool} {j lo hi lo' hi' : Nat} (h1 : (runsB p)[j]? = some (lo, hi)) (h2 : (runsB p)[j + 1]? = some (lo', hi')) : hi + 1 < lo' := by
  obtain ⟨a1, e1⟩ := List.getElem?_eq_some_iff.1 h1
  obtain ⟨a2, e2⟩ := List.getElem?_eq_some_iff.1 h2
  have := List.pairwise_iff_getElem.1 (runsB_inv p).gap j (j + 1) a1 a2 (by omega)
  rw [e1, e2] at this
  exact this
/-- All old blocks but B are as they were. -/
def KeepB (B : Nat) (w w' : World) : Prop := w.heap.size ≤ w'.heap.size ∧ ∀ k, k < w.heap.size → k ≠ B → w'.heap[k]? = w.heap[k]?
theorem KeepB.refl (B : Nat) (w : World) : KeepB B w w := ⟨Nat.le_refl _, fun _ _ _ => rfl⟩
theorem KeepB.below {B : Nat} {w w1 w2 : World} (h : KeepB B w w1) (hb : Below w1.heap.size w1 w2) : KeepB B w w2 :=
  ⟨Nat.le_trans h.1 hb.size, fun k hk hne => (hb.block k (Nat.lt_of_lt_of_le hk h.1)).trans (h.2 k hk hne)⟩
theorem KeepB.put {B : Nat} {w w1 w2 : World} (h : KeepB B w w1) (hp : PutAt B w1 w2) : KeepB B w w2 :=
  ⟨by rw [hp.size]; exact h.1, fun k hk hne => (hp.block k hne).trans (h.2 k hk hne)⟩
theorem KeepB.cell {B g o : Nat} {w w1 : World} (h : KeepB B w w1) (hg : g < w.heap.size) (hne : g ≠ B) : w1.cell? ⟨g, o, none⟩ = w.cell? ⟨g, o, none⟩ := by
  simp [World.cell?, h.2 g hg hne]
/-- What the region that makes the range leaves. -/
def CutR (wr : World) (q : Nat → Bool) (s15 s16 : Value) (wx : World) : Prop :=
  ∃ B : Nat, s15 = .pointer (some ⟨B, 0, none⟩) ∧ s16 = .int .i64 0 ∧ wr.heap.size ≤ B ∧ SA wx B q ∧ Below wr.heap.size wr wx
theorem cutR_close {wr X : World} {B : Nat} (q : Nat → Bool) (h : IsSet X B) (hB : wr.heap.size ≤ B) (hb : Below wr.heap.size wr X) : CutR wr q (.pointer (some ⟨B, 0, none⟩)) (.int .i64 0) (X.setRow B (sc q)) := by
  obtain ⟨u, h⟩ := h
  exact ⟨B, rfl, rfl, hB, h.setRow q, hb.trans ((PutAt.setRow X B _).below hB)⟩
set_option maxHeartbeats 1600000 in
set_option maxRecDepth 100000 in
theorem back_any (p : Nat → Bool) (b : ByteArray) (w : World) : Calls Try.prog 7 #[sv p, .string b] w fun e w' => e = .returned (.bool true) ∧ Below w.heap.size w w' := by
  have SH := Lib.hid shown_any
  have UN := Lib.hid (fun a b w => uni_any a b w)
  have s0 := SA.new w p
  have hb : Below w.heap.size w (w.alloc (setO p)) := (Below.refl _ w).alloc (Nat.le_refl _) _
  by_cases h1 : 200 < b.size
  · have hb1 : decide ((200 : Int) < (b.size : Int)) = true := decide_eq_true (by omega)
    clear h1
    go_enter Try.func7, Try.ntmps7
    go_wp2_with (first
      | (go_at_call 9; (with_reducible refine (SH.out _).mono ?_); rintro e w9 ⟨rfl, hb2⟩; replace hb := hb.trans (hb2.mono hb.size); clear hb2)
      )
    go_ret
    exact ⟨rfl, hb⟩
  have hb1 : decide ((200 : Int) < (b.size : Int)) = false := decide_eq_false (by omega)
  have PR := Lib.hid (fun w => bk_print p w)
  have PA := Lib.hid (fun w => bk_parse p w)
  have PF := Lib.hid (fun w => bk_prefix p b (by omega) w)
  have RU := Lib.hid (fun w => runs_any p w)
  have hT := textP_size p
  have hTl := printB_len p
  have hcd : ¬ 9223372036854775807 < (textP p).size + b.size := by omega
  rw [hT] at hcd
  have e0 := eqS_self p
  generalize textP p = T at *
  clear hTl
  go_enter Try.func7, Try.ntmps7
  go_wp2_with (first
    | (refine wpList_get rfl _ rfl _ rfl _ s0 ?_)
    | (go_at_call 37; (with_reducible refine (PR.out _).mono ?_); rintro e w2 ⟨rfl, hb2⟩; replace s0 := s0.below hb2 s0.lt; replace hb := hb.trans (hb2.mono hb.size); clear hb2)
    | (go_at_call 38; (with_reducible refine (PA.out _).mono ?_); rintro e w3 ⟨rfl, hb2⟩; replace s0 := s0.below hb2 s0.lt; replace hb := hb.trans (hb2.mono hb.size); have z3 := SA.zero w3; have l3 := s0.lt; clear hb2)
    | (refine wpList_put rfl _ _ rfl _ rfl _ p rfl z3 ?_; (intro w4 s4 p4; replace s0 := p4.sa (by omega) (s0.alloc zeros); replace hb := (hb.alloc hb.size zeros).trans (p4.below hb.size); clear z3 p4))
    | (go_at_call 39; (with_reducible refine (PF.out _).mono ?_); rintro e w5 ⟨rfl, hb2⟩; replace s0 := s0.below hb2 s0.lt; replace s4 := s4.below hb2 s4.lt; replace hb := hb.trans (hb2.mono hb.size); have z5 := SA.zero w5; have l5 := s0.lt; have l6 := s4.lt; clear hb2)
    | (refine wpList_put rfl _ _ rfl _ rfl _ p rfl z5 ?_; (intro w6 s6 p6; replace s0 := p6.sa (by omega) (s0.alloc zeros); replace s4 := p6.sa (by omega) (s4.alloc zeros); replace hb := (hb.alloc hb.size zeros).trans (p6.below hb.size); clear z5 p6))
    | (refine wpList_get rfl _ rfl _ rfl _ s4 ?_)
    | (refine wpList_getG (by kernel_rfl) _ rfl _ rfl _ s6 ?_)
    | (refine wpList_getG (by kernel_rfl) _ rfl _ rfl _ s0 ?_)
    | (go_at_call 35; (with_reducible refine (RU.out _).mono ?_); rintro e w7 ⟨v, rfl, hro, hb2⟩; have hv := RR.own hro; replace s0 := s0.below hb2 s0.lt; replace hb := hb.trans (hb2.mono hb.size); have l7 := s0.lt; clear hb2 hro s4 s6)
    )
  have HV := Lib.hid hv
  have hlen := runsB_len p
  obtain ⟨pp, cc, rfl, hcc, _⟩ := hv
  have HR := Lib.hid (fun i (hi : i < 256) => inR_runs p hi)
  have HG := Lib.hid (fun j lo hi lo' hi' => runs_gap (p := p) (j := j) (lo := lo) (hi := hi) (lo' := lo') (hi' := hi'))
  have HO := Lib.hid (fun r hr => runsB_ok (p := p) (r := r) hr)
  obtain ⟨rs, hrs⟩ : ∃ rs, rs = runsB p := ⟨_, rfl⟩
  rw [← hrs] at HV HR HG HO hlen hcc ⊢
  obtain ⟨n, hn⟩ : ∃ n, n = rs.length := ⟨_, rfl⟩
  rw [← hn] at hlen hcc ⊢
  have HN := Lib.hid hn
  have z8 : SA (w7.alloc zeros) w7.heap.size (fun _ => false) := SA.zero w7
  have s8 : SA (w7.alloc zeros) w.heap.size p := s0.alloc zeros
  have hb8 : Below w.heap.size w (w7.alloc zeros) := hb.alloc hb.size zeros
  clear hn hrs hb s0 PR PA PF RU hT hcd
  go_loopw [14, 15, 16] (fun i _ _ wr => ∃ k : Nat, k ≤ n ∧ i = .int .i64 (k : Int) ∧ SA wr w7.heap.size (inR (rs.take k)) ∧ SA wr w.heap.size p ∧ KeepB w7.heap.size (w7.alloc zeros) wr ∧ Below w.heap.size w wr) (fun i _ _ _ => n - (intOf i).toNat)
  case atStart => exact ⟨0, Nat.zero_le _, rfl, z8.congr fun i _ => by simp [inR], s8, KeepB.refl _ _, hb8⟩
  case round =>
    clear z8 s8 hb8
    obtain ⟨k, hk, rfl, hA, hS, hB, hb⟩ := hrel
    by_cases hlt : k < n
    · have hltb : decide ((k : Int) < (n : Int)) = true := decide_eq_true (by omega)
      have hkn : (k : Int) < (n : Int) := by omega
      obtain ⟨⟨lo, hi⟩, hr⟩ : ∃ r, rs[k]? = some r := ⟨_, List.getElem?_eq_getElem (by rw [← HN.out]; exact hlt)⟩
      obtain ⟨g, o, c', ev, hgw, hcells⟩ := HV.out.form (by rw [← HN.out]; omega)
      have hpp : pp = some ⟨g, o, none⟩ := by cases ev; rfl
      subst hpp
      obtain ⟨hlh, hc8⟩ := HO.out _ (List.mem_of_getElem? hr)
      simp only at hlh hc8
      have hg8 : g < (w7.alloc zeros).heap.size := by simp; omega
      have hcl : ∀ x u, w7.cell? ⟨g, x, none⟩ = some u → wr.cell? ⟨g, x, none⟩ = some u := fun x u h => (hB.cell hg8 (by omega)).trans ((((Below.refl _ w7).alloc (Nat.le_refl _) zeros).cell (p := ⟨g, x, none⟩) hgw).trans h)
      have hck1 := hcl _ _ (hcells k _ hr).1
      have hck2 := hcl _ _ (hcells k _ hr).2
      simp only [u8n] at hck1 hck2
      have hgr : g < wr.heap.size := Nat.lt_of_lt_of_le hg8 hB.1
      have hw1 : IntKind.i64.wrap (lo : Int) = (lo : Int) := IntWalk.i64_in _ (by omega)
      have hw2 : IntKind.i64.wrap (hi : Int) = (hi : Int) := IntWalk.i64_in _ (by omega)
      have HRS := Lib.hid hr
      have HK := Lib.hid (And.intro hA (And.intro hS (And.intro hB hb)))
      have RG : ∀ w, Calls Try.prog 11 #[.int .i64 (lo : Int), .int .i64 (hi : Int)] w fun e w' => e = .returned (.tuple #[sv (rngP lo hi), .int .i64 0]) ∧ Below w.heap.size w w' := fun w => (range_any (lo : Int) (hi : Int) w).mono fun e w' h => by
        have hE : rngE (lo : Int) (hi : Int) = 0 := by unfold rngE rngOk; rw [if_pos]; simp; omega
        have h2 := h
        unfold RngPost at h2
        rw [hE] at h2; exact h2
      replace RG := Lib.hid RG
      by_cases hk0 : k = 0
      · have b5 : decide ((0 : Int) < (k : Int)) = false := decide_eq_false (by omega)
        have b6 : ¬ 0 < k := by omega
        clear hcl hcells ev hA hS hB hb hr hk0
        go_wp2
        refine wp_region_below (w := wr) (Nat.le_refl _) (by kernel_rfl) (by kernel_rfl) ?_
        repeat (first
          | go_big_quiet_skip
          | (go_big_quiet_want; (first
              | ((fail); simp only [Act.put, List.setIfInBounds_toArray, List.set_cons_succ, List.set_cons_zero]; go_big_quiet_on)
              | (go_big_quiet_op; (first
                  | go_big_quiet_on
                  | (refine ⟨_, fun _ _ => rfl, ?_⟩; go_big_quiet_on)
                  | (apply Exists.intro; refine ⟨fun w9 hw9 => ?_, ?_⟩; (focus (fail)); go_big_quiet_on))))))
        refine wpQuiet_nil ?_
        intro w4 hb4
        have c1 := (hb4.cell (p := ⟨g, o + k * 2, none⟩) hgr).trans hck1
        have c2 := (hb4.cell (p := ⟨g, o + k * 2 + 1, none⟩) hgr).trans hck2
        have hg4 : g < w4.heap.size := Nat.lt_of_lt_of_le hgr hb4.size
        have CE := Lib.hid (fun (X : World) (h : Below w4.heap.size w4 X) => And.intro ((h.cell (p := ⟨g, o + k * 2, none⟩) hg4).trans c1) ((h.cell (p := ⟨g, o + k * 2 + 1, none⟩) hg4).trans c2))
        have H4 := Lib.hid hb4
        clear hb4 hck1 hck2 hgr
        go_upto_region 15 with fail
        go_cut [15, 16] from 65 to 110 (fun s15 s16 wx => CutR w4 (rngP lo hi) s15 s16 wx)
        case first =>
          have H0 := Below.refl w4.heap.size w4
          have b0 : Below w4.heap.size w4 w4.drew := H0.drew
          have b1 : Below w4.heap.size w4 (w4.alloc zeros).drew := (H0.alloc (Nat.le_refl _) _).drew
          go_region_held3 (fun w' => w'.cell? ⟨g, o + k * 2, none⟩ = some (.int .u8 (lo : Int)) ∧ w'.cell? ⟨g, o + k * 2 + 1, none⟩ = some (.int .u8 (hi : Int)))
            (first | (with_reducible exact CE.out _ b0) | (with_reducible exact CE.out _ b1) | (with_reducible exact CE.out _ b5) | (with_reducible exact CE.out _ (b5.alloc l5 _)) | (with_reducible exact CE.out _ ((b5.alloc l5 _).trans ((PutAt.setRow _ _ _).below l5))) | (with_reducible exact CE.out _ (b5.trans ((PutAt.setRow _ _ _).below (Nat.le_refl _)))))
            (first
              | (go_at_call 11; (with_reducible refine (RG.out _).mono ?_); rintro e w5 ⟨rfl, hb5⟩
                 (first
                   | (with_reducible have b5 := b0.trans (hb5.mono b0.size))
                   | (with_reducible have b5 := b1.trans (hb5.mono b1.size)))
                 have l5 := b5.size
                 (try (with_reducible have t5 : IsSet w5 w4.heap.size := IsSet.below (IsSet.one w4).drew hb5))
                 (try (with_reducible have t5 : IsSet w5 w4.heap.size := IsSet.below (IsSet.oneA w4).drew hb5))
                 skip))
          all_goals
            go_wp2_with fail
            go_meet
            refine cutR_close _ ?_ ?_ ?_
            · first | (with_reducible assumption) | exact IsSet.one _
            · first | exact Nat.le_refl _ | exact l5
            · first | (with_reducible assumption) | exact b5.alloc l5 _
        case rest =>
          obtain ⟨B, rfl, rfl, hBB, sB, HC⟩ := hcut
          obtain ⟨hA, hS, hB, hb⟩ := HK.out
          have h4 := H4.out
          have RS := Lib.hid (And.intro hlh hc8)
          have HC2 := h4.trans (HC.mono h4.size)
          have hAl := hA.lt
          have hSl := hS.lt
          have hS4 := h4.size
          replace hA := hA.below HC2 hAl
          replace hS := hS.below HC2 hSl
          replace hB := hB.below HC2
          replace hb := hb.trans (HC2.mono hb.size)
          have hBl := hA.lt
          have hne : B ≠ w7.heap.size := by omega
          clear HC HC2 h4 H4 HK CE c1 c2
          go_wp2_with (first
            | (refine wpList_get rfl _ rfl _ rfl _ hA ?_)
            | (refine wpList_get rfl _ rfl _ rfl _ sB ?_)
            | (go_at_call 20; (with_reducible refine (UN.out _ _ _).mono ?_); rintro e w5 ⟨rfl, hb5⟩
               replace hA := hA.below hb5 hBl
               replace hS := hS.below hb5 hS.lt
               replace hB := hB.below hb5
               replace hb := hb.trans (hb5.mono hb.size)
               clear hb5 sB)
            | (refine wpList_put rfl _ _ rfl _ rfl _ (uS (inR (rs.take k)) (rngP lo hi)) rfl hA ?_; (intro w6 s6 p6; replace hS := p6.sa (by omega) hS; replace hB := hB.put p6; replace hb := hb.trans (p6.below (by omega)); clear p6))
            )
          have hk1 := HRS.out
          refine ⟨⟨k + 1, hlt, by simp, s6.congr fun i _ => ?_, hS, hB, hb⟩, ?_⟩
          · exact inR_succ hk1 hlh hc8 i
          · simp only [intOf]; omega
      · obtain ⟨j, hj⟩ : ∃ j, j + 1 = k := ⟨k - 1, by omega⟩
        obtain ⟨⟨lo', hi'⟩, hd⟩ : ∃ d, rs[j]? = some d := ⟨_, List.getElem?_eq_getElem (by rw [← HN.out]; omega)⟩
        have hgp := HG.out j lo' hi' lo hi hd (by rw [hj]; exact hr)
        have hdk := hcl _ _ (hcells j _ hd).2
        simp only [u8n] at hdk
        have hd8 := (HO.out _ (List.mem_of_getElem? hd)).2
        simp only at hd8
        have hw5 : IntKind.i64.wrap (hi' : Int) = (hi' : Int) := IntWalk.i64_in _ (by omega)
        have hw6 : IntKind.i64.wrap ((hi' : Int) + 1) = (hi' : Int) + 1 := IntWalk.i64_in _ (by omega)
        have b3 : decide ((lo : Int) ≤ (hi' : Int) + 1) = false := decide_eq_false (by omega)
        have b5 : decide ((0 : Int) < (k : Int)) = true := decide_eq_true (by omega)
        have b6 : 0 < k := by omega
        have hjn : (j : Int) < (n : Int) := by omega
        have hw4 : IntKind.i64.wrap ((k : Int) - 1) = (j : Int) := by rw [IntWalk.i64_in _ (by omega)]; omega
        clear hcl hcells ev hA hS hB hb hr hk0 hd hgp hd8 hj
        go_wp2
        refine wp_region_below (w := wr) (Nat.le_refl _) (by kernel_rfl) (by kernel_rfl) ?_
        repeat (first
          | go_big_quiet_skip
          | (go_big_quiet_want; (first
              | ((first | refine quiet_byte _ rfl _ rfl _ hck1 hgr ?_ | refine quiet_byte _ rfl _ rfl _ hdk hgr ?_); simp only [Act.put, List.setIfInBounds_toArray, List.set_cons_succ, List.set_cons_zero]; go_big_quiet_on)
              | (go_big_quiet_op; (first
                  | go_big_quiet_on
                  | (refine ⟨_, fun _ _ => rfl, ?_⟩; go_big_quiet_on)
                  | (apply Exists.intro; refine ⟨fun w9 hw9 => ?_, ?_⟩; (focus (fail)); go_big_quiet_on))))))
        refine wpQuiet_nil ?_
        intro w4 hb4
        have c1 := (hb4.cell (p := ⟨g, o + k * 2, none⟩) hgr).trans hck1
        have c2 := (hb4.cell (p := ⟨g, o + k * 2 + 1, none⟩) hgr).trans hck2
        have hg4 : g < w4.heap.size := Nat.lt_of_lt_of_le hgr hb4.size
        have CE := Lib.hid (fun (X : World) (h : Below w4.heap.size w4 X) => And.intro ((h.cell (p := ⟨g, o + k * 2, none⟩) hg4).trans c1) ((h.cell (p := ⟨g, o + k * 2 + 1, none⟩) hg4).trans c2))
        have H4 := Lib.hid hb4
        clear hb4 hck1 hck2 hgr
        go_upto_region 15 with fail
        go_cut [15, 16] from 65 to 110 (fun s15 s16 wx => CutR w4 (rngP lo hi) s15 s16 wx)
        case first =>
          have H0 := Below.refl w4.heap.size w4
          have b0 : Below w4.heap.size w4 w4.drew := H0.drew
          have b1 : Below w4.heap.size w4 (w4.alloc zeros).drew := (H0.alloc (Nat.le_refl _) _).drew
          go_region_held3 (fun w' => w'.cell? ⟨g, o + k * 2, none⟩ = some (.int .u8 (lo : Int)) ∧ w'.cell? ⟨g, o + k * 2 + 1, none⟩ = some (.int .u8 (hi : Int)))
            (first | (with_reducible exact CE.out _ b0) | (with_reducible exact CE.out _ b1) | (with_reducible exact CE.out _ b5) | (with_reducible exact CE.out _ (b5.alloc l5 _)) | (with_reducible exact CE.out _ ((b5.alloc l5 _).trans ((PutAt.setRow _ _ _).below l5))) | (with_reducible exact CE.out _ (b5.trans ((PutAt.setRow _ _ _).below (Nat.le_refl _)))))
            (first
              | (go_at_call 11; (with_reducible refine (RG.out _).mono ?_); rintro e w5 ⟨rfl, hb5⟩
                 (first
                   | (with_reducible have b5 := b0.trans (hb5.mono b0.size))
                   | (with_reducible have b5 := b1.trans (hb5.mono b1.size)))
                 have l5 := b5.size
                 (try (with_reducible have t5 : IsSet w5 w4.heap.size := IsSet.below (IsSet.one w4).drew hb5))
                 (try (with_reducible have t5 : IsSet w5 w4.heap.size := IsSet.below (IsSet.oneA w4).drew hb5))
                 skip))
          all_goals
            go_wp2_with fail
            go_meet
            refine cutR_close _ ?_ ?_ ?_
            · first | (with_reducible assumption) | exact IsSet.one _
            · first | exact Nat.le_refl _ | exact l5
            · first | (with_reducible assumption) | exact b5.alloc l5 _
        case rest =>
          obtain ⟨B, rfl, rfl, hBB, sB, HC⟩ := hcut
          obtain ⟨hA, hS, hB, hb⟩ := HK.out
          have h4 := H4.out
          have RS := Lib.hid (And.intro hlh hc8)
          have HC2 := h4.trans (HC.mono h4.size)
          have hAl := hA.lt
          have hSl := hS.lt
          have hS4 := h4.size
          replace hA := hA.below HC2 hAl
          replace hS := hS.below HC2 hSl
          replace hB := hB.below HC2
          replace hb := hb.trans (HC2.mono hb.size)
          have hBl := hA.lt
          have hne : B ≠ w7.heap.size := by omega
          clear HC HC2 h4 H4 HK CE c1 c2
          go_wp2_with (first
            | (refine wpList_get rfl _ rfl _ rfl _ hA ?_)
            | (refine wpList_get rfl _ rfl _ rfl _ sB ?_)
            | (go_at_call 20; (with_reducible refine (UN.out _ _ _).mono ?_); rintro e w5 ⟨rfl, hb5⟩
               replace hA := hA.below hb5 hBl
               replace hS := hS.below hb5 hS.lt
               replace hB := hB.below hb5
               replace hb := hb.trans (hb5.mono hb.size)
               clear hb5 sB)
            | (refine wpList_put rfl _ _ rfl _ rfl _ (uS (inR (rs.take k)) (rngP lo hi)) rfl hA ?_; (intro w6 s6 p6; replace hS := p6.sa (by omega) hS; replace hB := hB.put p6; replace hb := hb.trans (p6.below (by omega)); clear p6))
            )
          have hk1 := HRS.out
          refine ⟨⟨k + 1, hlt, by simp, s6.congr fun i _ => ?_, hS, hB, hb⟩, ?_⟩
          · exact inR_succ hk1 hlh hc8 i
          · simp only [intOf]; omega
    · obtain rfl : k = n := by omega
      have hltb : decide ((k : Int) < (k : Int)) = false := decide_eq_false (by omega)
      have hA2 := hA.congr (q := p) fun i hi => by rw [HN.out, List.take_length]; exact HR.out i hi
      clear hA
      go_wp2_with (first
        | (refine wpList_get rfl _ rfl _ rfl _ hA2 ?_)
        | (refine wpList_get rfl _ rfl _ rfl _ hS ?_)
        | (go_at_call 9; (with_reducible refine (SH.out _).mono ?_); rintro e w9 ⟨rfl, hb2⟩; replace hb := hb.trans (hb2.mono hb.size); clear hb2)
        )
      go_ret
      exact ⟨rfl, hb⟩
end Go.Proofs.Ytedbhjladpfafaa
