/- The law on sums. -/
import Derived.Test.YtehjncebddoinaaDoorTf
import Derived.Deep.Cut
import Derived.Deep.CutRange
import Derived.OwnWalk
import Derived.Maps.AppendAt
namespace Go.Proofs.YtehjncebddoinaaDoor
open Go.RowKit
theorem TR.none_nil {W : World} {n c : Nat} {l : List Ev} (h : TR W (.slice none n c) l) : n = 0 ∧ l = [] := by
  obtain ⟨_, q, c', e, _, hx⟩ := h
  cases e
  cases l with
  | nil => exact ⟨rfl, rfl⟩
  | cons x r =>
    obtain ⟨b, o, e, _⟩ := hx 0 x rfl
    cases e
theorem TR.news {W : World} {q : Addr} {n c : Nat} {l : List Ev} (h : TR W (.slice (some q) n c) l) : ∀ j u, (flat l)[j]? = some u → W.cell? (q.add j) = some u := by
  intro j u hj
  have hl : 0 < l.length := by
    cases l with
    | nil => simp [flat] at hj
    | cons x r => simp
  obtain ⟨_, q', c', e, _, hx⟩ := h
  cases e
  obtain ⟨b, o, e, _⟩ := hx 0 l[0] (List.getElem?_eq_getElem hl)
  cases e
  exact flat_cells (fun i x hi => by obtain ⟨b', o', e, _, h1, h2⟩ := hx i x hi; cases e; exact ⟨h1, h2⟩) j u hj
theorem own_trace {W : World} {v : Value} {n : Nat} {l : List Ev} (h : W.ownsRow 0 43 2 v (0 + n) ([] ++ flat l)) (hn : n = l.length) (ho : ∀ x ∈ l, okE x) : TR W v l := by
  refine OwT.tr (B := 0) ?_ ho
  unfold OwT
  rw [Nat.zero_add, hn] at h
  exact h
theorem own_some {W : World} {v : Value} {n : Nat} {xs : List Value} (h : W.ownsRow 0 43 2 v (0 + n) xs) (hv : ¬ v = .slice none 0 0) : ∃ g cap, v = .slice (some ⟨g, 0, none⟩) n cap ∧ n ≤ cap := by
  rcases h.2 with ⟨e, _⟩ | ⟨g, cap, cur, rfl, _, _, hn, _⟩
  · exact absurd e hv
  · exact ⟨g, cap, by rw [Nat.zero_add], by omega⟩
theorem own_block_ge {w w0 : World} {v : Value} {k : Nat} (h : v.ownBlock = some w.heap.size ∨ v.ownBlock = some w0.heap.size) (e : v.ownBlock = some k) : w.heap.size ≤ k ∨ w0.heap.size ≤ k := by
  rcases h with h | h <;> (rw [h] at e; cases e; simp)
set_option maxHeartbeats 6400000 in
set_option maxRecDepth 100000 in
theorem tsums_any (va : Value) (a : List Ev) (vb : Value) (b : List Ev) (vr : Value) (rs : List Rg) (w : World) (ha : TR w va a) (hb0 : TR w vb b) (hr : RG w vr rs) (hp : P10 w) : Calls Tryd.prog 7 #[va, vb, vr] w (AwPost w) := by
  have hb := Below.refl w.heap.size w
  have HP := Lib.hid (fun W (h : Below w.heap.size w W) => hp.below h)
  have AW := Lib.hid awake_any
  have FA := Lib.hid (far_tr ha)
  have FB := Lib.hid (far_tr hb0)
  clear hp
  by_cases fa : farB a.length = true
  · rw [fa] at FA
    clear fa ha hb0 hr
    go_enter Tryd.func7, Tryd.ntmps7
    go_wp2_with (first
      | (go_at_call 8; (first | (with_reducible refine FA.out.mono ?_) | (with_reducible refine FB.out.mono ?_)); rintro e w' ⟨rfl, rfl⟩)
      | (go_at_call 9; (with_reducible refine (AW.out _ (HP.out _ hb)).mono ?_); rintro e w1 ⟨rfl, hb2⟩; replace hb := hb.trans (hb2.mono hb.size); clear hb2))
    go_ret
    exact ⟨rfl, hb⟩
  have fa : farB a.length = false := by simpa using fa
  have la := farB_false fa
  rw [fa] at FA
  by_cases fb : farB b.length = true
  · rw [fb] at FB
    clear fa fb la ha hb0 hr
    go_enter Tryd.func7, Tryd.ntmps7
    go_wp2_with (first
      | (go_at_call 8; (first | (with_reducible refine FA.out.mono ?_) | (with_reducible refine FB.out.mono ?_)); rintro e w' ⟨rfl, rfl⟩)
      | (go_at_call 9; (with_reducible refine (AW.out _ (HP.out _ hb)).mono ?_); rintro e w1 ⟨rfl, hb2⟩; replace hb := hb.trans (hb2.mono hb.size); clear hb2))
    go_ret
    exact ⟨rfl, hb⟩
  have fb : farB b.length = false := by simpa using fb
  have lb := farB_false fb
  rw [fb] at FB
  clear fa fb
  have HA := Lib.hid (fun W (h : Below w.heap.size w W) => ha.below h)
  have HB := Lib.hid (fun W (h : Below w.heap.size w W) => hb0.below h)
  have HR := Lib.hid (fun W (h : Below w.heap.size w W) => hr.below h)
  obtain ⟨_, pr, cr, rfl, _⟩ := hr
  obtain ⟨R, hR⟩ : ∃ n, n = rs.length := ⟨_, rfl⟩
  rw [← hR] at HR ⊢
  by_cases h70 : 70 < R
  · have t1 : decide ((70 : Int) < (R : Int)) = true := decide_eq_true (by omega)
    clear ha hb0 h70 la lb hR
    go_enter Tryd.func7, Tryd.ntmps7
    go_wp2_with (first
      | (go_at_call 8; (first | (with_reducible refine FA.out.mono ?_) | (with_reducible refine FB.out.mono ?_)); rintro e w' ⟨rfl, rfl⟩)
      | (go_at_call 9; (with_reducible refine (AW.out _ (HP.out _ hb)).mono ?_); rintro e w1 ⟨rfl, hb2⟩; replace hb := hb.trans (hb2.mono hb.size); clear hb2))
    go_ret
    exact ⟨rfl, hb⟩
  have t1 : decide ((70 : Int) < (R : Int)) = false := decide_eq_false (by omega)
  obtain ⟨i0, hi, hz0, hz1, hz2⟩ := info_parts info_ev
  have haf := ha.form
  have hbf := hb0.form
  have hoa := ha.1
  have hob := hb0.1
  obtain ⟨pa, ca, rfl⟩ := ha.len
  obtain ⟨pb, cb, rfl⟩ := hb0.len
  obtain ⟨n, hn⟩ : ∃ n, n = a.length := ⟨_, rfl⟩
  obtain ⟨m, hm⟩ : ∃ n, n = b.length := ⟨_, rfl⟩
  rw [← hn] at HA la haf FA ⊢
  rw [← hm] at HB lb hbf FB ⊢
  have RE := Lib.hid hR
  have NE := Lib.hid hn
  have ME := Lib.hid hm
  have OA := Lib.hid hoa
  have OB := Lib.hid hob
  have IFO := Lib.hid (And.intro haf hbf)
  clear ha hb0 hn hm hR hoa hob haf hbf
  go_enter Tryd.func7, Tryd.ntmps7
  go_upto_region 3 with (go_at_call 8; (first | (with_reducible refine FA.out.mono ?_) | (with_reducible refine FB.out.mono ?_)); rintro e w' ⟨rfl, rfl⟩)
  go_cut [7] from 38 to 43 (fun s7 wx => TR wx s7 (a ++ b) ∧ Below w.heap.size w wx)
  case first =>
    clear FA FB HR RE HP AW t1
    cases pa with
    | none =>
      obtain ⟨rfl, rfl⟩ := TR.none_nil (HA.out w (Below.refl _ _))
      cases pb with
      | none =>
        obtain ⟨rfl, rfl⟩ := TR.none_nil (HB.out w (Below.refl _ _))
        go_wp2
        go_meet
        exact ⟨TR.nils _ _ _, (Below.refl _ w).alloc (Nat.le_refl _) _⟩
      | some qb =>
        have NB := Lib.hid (HB.out _ ((Below.refl w.heap.size w).alloc (Nat.le_refl _) (.cells #[] 43)))
        go_wp2_with (at_builtin; refine wpList_append_own_at _ rfl _ _ 22 rfl 0 43 i0 (.agg #[.int .i32 0, .int .i32 0]) 2 8 Tryd.underlying22 hi hz0 hz1 hz2 rfl (by decide) (.slice (some ⟨w.heap.size, 0, none⟩) 0 0) 0 [] rfl (World.ownsRow_made w #[] 0 (Nat.zero_le _) (by decide) rfl) qb m cb (flat b) rfl (by rw [flat_len]; have h1 := NE.out; have h2 := ME.out; omega) (NB.out).news (flat_one _) (by simp only [maxLen]; omega) (by omega) (Nat.zero_le _) ?_; intro v' w1 hown hg hnil hat; have HW := Lib.hid hown; have HG := Lib.hid hg; have HT := Lib.hid hat; clear hown hg hnil hat)
        go_meet
        refine ⟨?_, ((Below.refl _ w).alloc (Nat.le_refl _) _).grown HG.out (by simp) (fun k e => by cases e; exact Nat.le_refl _)⟩
        refine OwT.tr (B := 0) ?_ (fun x hx => OB.out x (by simpa using hx))
        unfold OwT
        have h1 := HW.out
        rw [Nat.zero_add, ME.out] at h1
        exact h1
    | some qa =>
      have NA := Lib.hid (HA.out _ ((Below.refl w.heap.size w).alloc (Nat.le_refl _) (.cells #[] 43)))
      cases pb with
      | none =>
        obtain ⟨rfl, rfl⟩ := TR.none_nil (HB.out w (Below.refl _ _))
        go_wp2_with (at_builtin; refine wpList_append_own_at _ rfl _ _ 22 rfl 0 43 i0 (.agg #[.int .i32 0, .int .i32 0]) 2 8 Tryd.underlying22 hi hz0 hz1 hz2 rfl (by decide) (.slice (some ⟨w.heap.size, 0, none⟩) 0 0) 0 [] rfl (World.ownsRow_made w #[] 0 (Nat.zero_le _) (by decide) rfl) qa n ca (flat a) rfl (by rw [flat_len]; have h1 := NE.out; have h2 := ME.out; omega) (NA.out).news (flat_one _) (by simp only [maxLen]; omega) (by omega) (Nat.zero_le _) ?_; intro v1 w1 hown hg hnil hat; have HW := Lib.hid hown; have HG := Lib.hid hg; have HT := Lib.hid hat; have HI := Lib.hid (show ¬ v1 = .slice none 0 0 from fun e => by have h3 := (hnil.1 e).1; cases h3); clear hown hg hnil hat; have O1 := Lib.hid (own_trace HW.out NE.out OA.out); have B1 := Lib.hid (((Below.refl w.heap.size w).alloc (Nat.le_refl _) (.cells #[] 43)).grown HG.out (by simp) (fun k e => by cases e; exact Nat.le_refl _)); (obtain ⟨g1, c1, rfl, hc1⟩ := own_some HW.out HI.out))
        all_goals (go_meet; exact ⟨by rw [List.append_nil]; exact O1.out, B1.out⟩)
      | some qb =>
        go_wp2_with (first
          | (at_builtin; refine wpList_append_own_at _ rfl _ _ 22 rfl 0 43 i0 (.agg #[.int .i32 0, .int .i32 0]) 2 8 Tryd.underlying22 hi hz0 hz1 hz2 rfl (by decide) (.slice (some ⟨w.heap.size, 0, none⟩) 0 0) 0 [] rfl (World.ownsRow_made w #[] 0 (Nat.zero_le _) (by decide) rfl) qa n ca (flat a) rfl (by rw [flat_len]; have h1 := NE.out; have h2 := ME.out; omega) (NA.out).news (flat_one _) (by simp only [maxLen]; omega) (by omega) (Nat.zero_le _) ?_; intro v1 w1 hown hg hnil hat; have HW := Lib.hid hown; have HG := Lib.hid hg; have HT := Lib.hid hat; have HI := Lib.hid (show ¬ v1 = .slice none 0 0 from fun e => by have h3 := (hnil.1 e).1; cases h3); clear hown hg hnil hat; have O1 := Lib.hid (own_trace HW.out NE.out OA.out); have B1 := Lib.hid (((Below.refl w.heap.size w).alloc (Nat.le_refl _) (.cells #[] 43)).grown HG.out (by simp) (fun k e => by cases e; exact Nat.le_refl _)); have NB := Lib.hid (HB.out _ B1.out))
          | (at_builtin; refine wpList_append_own_at _ rfl _ _ 22 rfl 0 43 i0 (.agg #[.int .i32 0, .int .i32 0]) 2 8 Tryd.underlying22 hi hz0 hz1 hz2 rfl (by decide) _ (0 + n) ([] ++ flat a) rfl HW.out qb m cb (flat b) rfl (by rw [flat_len]; have h1 := NE.out; have h2 := ME.out; omega) (NB.out).news (flat_one _) (by simp only [maxLen]; omega) (by omega) (Nat.zero_le _) ?_; intro v2 w2 hown hg hnil hat; have HW2 := Lib.hid hown; have HG2 := Lib.hid hg; clear hown hg hnil hat))
        have hb2 := B1.out.grown HG2.out (B1.out.size) (fun k e => by rcases own_block_ge (w := w) HT.out e with h | h <;> (try simp at h) <;> omega)
        go_meet
        refine ⟨?_, hb2⟩
        refine OwT.tr (B := 0) ?_ (fun x hx => (List.mem_append.1 hx).elim (OA.out x) (OB.out x))
        unfold OwT
        have h1 := HW2.out
        rw [List.length_append, ← NE.out, ← ME.out, flat_app]
        simpa using h1
  case rest =>
    obtain ⟨hv0, hb0⟩ := hcut
    obtain ⟨N, hN⟩ : ∃ N, N = (a ++ b).length := ⟨_, rfl⟩
    have hNs : N = n + m := by rw [hN, List.length_append, NE.out, ME.out]
    have HWB := Lib.hid (fun W (h : Below wc.heap.size wc W) => hb0.trans (h.mono hb0.size))
    have HV := Lib.hid (fun W (h : Below wc.heap.size wc W) => hv0.below h)
    obtain ⟨pv, cv, rfl⟩ := hv0.len
    rw [← hN] at HV
    rw [← hN]
    have HN := Lib.hid hN
    have hb := Below.refl wc.heap.size wc
    have hN9 : N ≤ 100000000 := by omega
    have C1 := Lib.hid (fun W h => cut_any _ (a ++ b) 0 (n : Int) W (HV.out W h) (by rw [← HN.out]; exact hN9))
    have C2 := Lib.hid (fun W h => cut_any _ (a ++ b) (n : Int) (N : Int) W (HV.out W h) (by rw [← HN.out]; exact hN9))
    unfold CuPost at C1 C2
    rw [NE.out, (cut_left a b).1, (cut_left a b).2, ← NE.out] at C1
    rw [NE.out, HN.out, (cut_right a b).1, (cut_right a b).2, ← NE.out, ← HN.out] at C2
    have K1 := Lib.hid (fun W h k hk => cnt_any _ a k hk W (HA.out W (HWB.out W h)) (by rw [← NE.out]; omega))
    have K2 := Lib.hid (fun W h k hk => cnt_any _ b k hk W (HB.out W (HWB.out W h)) (by rw [← ME.out]; omega))
    have K3 := Lib.hid (fun W h k hk => cnt_any _ (a ++ b) k hk W (HV.out W h) (by rw [← HN.out]; exact hN9))
    have CH := Lib.hid (fun W h => check_any _ (a ++ b) 65536 W (HV.out W h) (by rw [← HN.out]; exact hN9))
    unfold ChPost at CH
    clear hv0 hb0 hN IFO hz0 hz1 hz2 hi i0
    have KA1 := Lib.hid (fun W h => K1.out W h 1 (.inl rfl))
    have KA2 := Lib.hid (fun W h => K1.out W h 2 (.inr rfl))
    have KB1 := Lib.hid (fun W h => K2.out W h 1 (.inl rfl))
    have KB2 := Lib.hid (fun W h => K2.out W h 2 (.inr rfl))
    have KV1 := Lib.hid (fun W h => K3.out W h 1 (.inl rfl))
    have KV2 := Lib.hid (fun W h => K3.out W h 2 (.inr rfl))
    have s1 := cntK_app 1 a b
    have s2 := cntK_app 2 a b
    have l1 := cntK_le 1 a
    have l2 := cntK_le 2 a
    have l3 := cntK_le 1 b
    have l4 := cntK_le 2 b
    rw [← NE.out] at l1 l2
    rw [← ME.out] at l3 l4
    have CB := Lib.hid (fun h => cntK_both (l := a ++ b) (cells := 65536) h)
    rw [← HN.out] at CB
    clear K1 K2 K3
    generalize cntK 1 a = A1 at *
    generalize cntK 2 a = A2 at *
    generalize cntK 1 b = B1 at *
    generalize cntK 2 b = B2 at *
    generalize cntK 1 (a ++ b) = U1 at *
    generalize cntK 2 (a ++ b) = U2 at *
    have wa1 : IntKind.i64.wrap ((A1 : Int) + (B1 : Int)) = (A1 : Int) + (B1 : Int) := IntWalk.i64_in _ (by omega)
    have wa2 : IntKind.i64.wrap ((A2 : Int) + (B2 : Int)) = (A2 : Int) + (B2 : Int) := IntWalk.i64_in _ (by omega)
    have wu1 : IntKind.i64.wrap (U1 : Int) = (U1 : Int) := IntWalk.i64_in _ (by omega)
    have wu2 : IntKind.i64.wrap ((U1 : Int) + (U2 : Int)) = (U1 : Int) + (U2 : Int) := IntWalk.i64_in _ (by omega)
    have N9 : N ≤ 10200 := by omega
    clear hNs hN9
    have nu1 : ((U1 : Int) != (A1 : Int) + (B1 : Int)) = false := by rw [s1]; simp
    have nu2 : ((U2 : Int) != (A2 : Int) + (B2 : Int)) = false := by rw [s2]; simp
    clear s1 s2 l1 l2 l3 l4
    go_wp2_with (first
      | (go_at_call 14; (with_reducible refine (C1.out _ hb).mono ?_); rintro e w3 ⟨v1, rfl, hi1, hb2⟩; replace hb := hb.trans (hb2.mono hb.size); (obtain ⟨p1, k1, rfl⟩ := hi1.len); have I1 := Lib.hid hi1; clear hb2 hi1)
      | (go_at_call 14; (with_reducible refine (C2.out _ hb).mono ?_); rintro e w4 ⟨v2, rfl, hi2, hb2⟩; replace hb := hb.trans (hb2.mono hb.size); (obtain ⟨p2, k2, rfl⟩ := hi2.len); have hi1 := I1.out.below hb2; have E1 := Lib.hid (fun W (h : Below w4.heap.size w4 W) => events_any _ _ a a W (hi1.below h) (HA.out W (HWB.out W (hb.trans (h.mono hb.size)))) (by rw [← NE.out]; omega)); have E2 := Lib.hid (fun W (h : Below w4.heap.size w4 W) => events_any _ _ b b W (hi2.below h) (HB.out W (HWB.out W (hb.trans (h.mono hb.size)))) (by rw [← ME.out]; omega)); rw [show decide (a = a) = true from decide_eq_true rfl] at E1; rw [show decide (b = b) = true from decide_eq_true rfl] at E2; have hb4 := Below.refl w4.heap.size w4; clear hb2 hi1 hi2 I1)
      | (go_at_call 16; (first | (with_reducible refine (E1.out _ hb4).mono ?_) | (with_reducible refine (E2.out _ hb4).mono ?_)); rintro e w5 ⟨rfl, d, rfl⟩; replace hb := below_drewN2 hb d; replace hb4 := below_drewN2 hb4 d))
    clear E1 E2 hb4 C1 C2
    go_loopw [12, 13, 14, 15, 16, 17, 18, 19] (fun s12 s13 _ _ _ _ _ _ wr => (s13 = .int .i64 1 ∧ s12 = .int .i64 0 ∨ s13 = .int .i64 2 ∧ s12 = .int .i64 (U1 : Int) ∨ s13 = .int .i64 3 ∧ s12 = .int .i64 ((U1 : Int) + (U2 : Int))) ∧ Hid (Below wc.heap.size wc wr)) (fun _ s13 _ _ _ _ _ _ _ => 3 - (intOf s13).toNat)
    case atStart => exact ⟨.inl ⟨rfl, rfl⟩, Lib.hid (by rw [drewN_drewN] at hb; exact hb)⟩
    case round =>
      obtain ⟨hk, hbr⟩ := hrel
      have hb := hbr.out
      clear hbr
      rcases hk with ⟨rfl, rfl⟩ | ⟨rfl, rfl⟩ | ⟨rfl, rfl⟩
      · go_wp2_with (go_at_call 12; (first | (with_reducible refine (KA1.out _ hb).mono ?_) | (with_reducible refine (KB1.out _ hb).mono ?_) | (with_reducible refine (KV1.out _ hb).mono ?_)); rintro e w6 ⟨rfl, hb2⟩; replace hb := hb.trans (hb2.mono hb.size); clear hb2)
        go_roundw
        case rel => exact ⟨.inr (.inl ⟨by first | rfl | go_num, by first | rfl | go_num⟩), Lib.hid hb⟩
        case measure => simp [intOf]
      · go_wp2_with (go_at_call 12; (first | (with_reducible refine (KA2.out _ hb).mono ?_) | (with_reducible refine (KB2.out _ hb).mono ?_) | (with_reducible refine (KV2.out _ hb).mono ?_)); rintro e w6 ⟨rfl, hb2⟩; replace hb := hb.trans (hb2.mono hb.size); clear hb2)
        go_roundw
        case rel => exact ⟨.inr (.inr ⟨by first | rfl | go_num, by first | rfl | go_num⟩), Lib.hid hb⟩
        case measure => simp [intOf]
      · clear KA1 KA2 KB1 KB2 KV1 KV2 wa1 wa2 nu1 nu2 wu1 wu2
        obtain ⟨M, hM⟩ : ∃ M, M = R + 1 := ⟨_, rfl⟩
        have HM := Lib.hid hM
        have wM : IntKind.i64.wrap ((R : Int) + 1) = (R : Int) + 1 := IntWalk.i64_in _ (by omega)
        have nM : ((M : Int) != (R : Int) + 1) = false := by rw [hM]; simp
        have nMM : ((M : Int) != (M : Int)) = false := by simp
        have hML : M ≤ 71 := by omega
        clear hM
        have AWK := Lib.hid (fun W (h : Below wc.heap.size wc W) => AW.out W (HP.out W (HWB.out W h)))
        by_cases hE : (checkP (a ++ b) 65536).2 = 0
        · have hus := CB.out (check_ok hE).2.2.1
          have nus : ((U1 : Int) + (U2 : Int) != (N : Int)) = false := by rw [← hus]; simp
          rw [hE] at CH
          generalize (checkP (a ++ b) 65536).1 = q1 at CH
          clear hE hus CB
          by_cases hPE : partE rs = 0
          · have P1 := Lib.hid (fun W h => parts_ok _ _ a rs hPE W (HA.out W (HWB.out W h)) (HR.out W (HWB.out W h)) (by rw [← NE.out]; omega) (by rw [← RE.out]; omega))
            have P2 := Lib.hid (fun W h => parts_ok _ _ b rs hPE W (HB.out W (HWB.out W h)) (HR.out W (HWB.out W h)) (by rw [← ME.out]; omega) (by rw [← RE.out]; omega))
            have P3 := Lib.hid (fun W h => parts_ok _ _ (a ++ b) rs hPE W (HV.out W h) (HR.out W (HWB.out W h)) (by rw [← HN.out]; omega) (by rw [← RE.out]; omega))
            rw [← RE.out, ← HM.out] at P1 P2 P3
            clear hPE
            go_wp2_with (first
              | (go_at_call 10; (with_reducible refine (CH.out _ hb).mono ?_); rintro e w6 ⟨rfl, hb2⟩; replace hb := hb.trans (hb2.mono hb.size); clear hb2)
              | (go_at_call 21; (with_reducible refine (P1.out _ hb).mono ?_); rintro e w7 ⟨p1, k1, rfl, hi1, hb2⟩; replace hb := hb.trans (hb2.mono hb.size); have I1 := Lib.hid hi1; clear hb2 hi1)
              | (go_at_call 21; (with_reducible refine (P2.out _ hb).mono ?_); rintro e w8 ⟨p2, k2, rfl, hi2, hb2⟩; replace hb := hb.trans (hb2.mono hb.size); replace I1 := Lib.hid (I1.out.below hb2); have I2 := Lib.hid hi2; clear hb2 hi2)
              | (go_at_call 21; (with_reducible refine (P3.out _ hb).mono ?_); rintro e w9 ⟨p3, k3, rfl, hi3, hb2⟩; replace hb := hb.trans (hb2.mono hb.size); replace I1 := Lib.hid (I1.out.below hb2); replace I2 := Lib.hid (I2.out.below hb2); have I3 := Lib.hid hi3; clear hb2 hi3))
            clear P1 P2 P3 CH
            go_loopw [24, 25] (fun s24 s25 wr => ∃ i T : Nat, i ≤ M ∧ T ≤ N ∧ s25 = .int .i64 (i : Int) ∧ s24 = .int .i64 (T : Int) ∧ Hid (T = cumG rs i (a ++ b)) ∧ ∃ d, wr = w9.drewN d) (fun _ s25 _ => M - (intOf s25).toNat)
            case atStart => exact ⟨0, 0, Nat.zero_le _, Nat.zero_le _, rfl, rfl, Lib.hid (cumG_zero _ _).symm, 0, rfl⟩
            case round =>
              obtain ⟨i, T, hi, hT, rfl, rfl, hc, d, rfl⟩ := hrel
              have hbd := below_drewN2 hb d
              by_cases hlt : i < M
              · have tl : decide ((i : Int) < (M : Int)) = true := decide_eq_true (by omega)
                have hlt2 : (i : Int) < (M : Int) := by omega
                have hiR : i < rs.length + 1 := by rw [← RE.out, ← HM.out]; exact hlt
                obtain ⟨b1, o1, rfl, e1⟩ := row_at I1.out (partsL_at rs a hiR)
                obtain ⟨b2, o2, rfl, e2⟩ := row_at I2.out (partsL_at rs b hiR)
                obtain ⟨b3, o3, rfl, e3⟩ := row_at I3.out (partsL_at rs (a ++ b) hiR)
                have hs := cntG_app (gR rs i) a b
                have hl1 := cntG_le (gR rs i) a
                have hl2 := cntG_le (gR rs i) b
                rw [← NE.out] at hl1
                rw [← ME.out] at hl2
                have hcs := cumG_succ rs i (a ++ b)
                have hcl := cumG_le rs (i + 1) (a ++ b)
                rw [← HN.out] at hcl
                rw [← hc.out] at hcs
                have HCS := Lib.hid hcs
                rw [hcs] at hcl
                clear hcs hiR
                generalize cntG (gR rs i) a = y at *
                generalize cntG (gR rs i) b = z at *
                generalize cntG (gR rs i) (a ++ b) = x at *
                have wy : IntKind.i64.wrap ((y : Int) + (z : Int)) = (y : Int) + (z : Int) := IntWalk.i64_in _ (by omega)
                have nx : ((x : Int) != (y : Int) + (z : Int)) = false := by rw [hs]; simp
                have wT : IntKind.i64.wrap ((T : Int) + (x : Int)) = (T : Int) + (x : Int) := IntWalk.i64_in _ (by omega)
                have HTX := Lib.hid hcl
                clear hs hl1 hl2 hcl
                go_wp2
                go_quiet (fail)
                go_wp2
                go_roundw
                case rel => exact ⟨i + 1, T + x, by omega, HTX.out, by go_num, by go_num, Lib.hid HCS.out.symm, _, rfl⟩
                case measure => simp [intOf]; omega
              · have tl : decide ((i : Int) < (M : Int)) = false := decide_eq_false (by omega)
                have hTN : T = N := by rw [hc.out, show i = rs.length + 1 by rw [← RE.out, ← HM.out]; omega, cumG_all, HN.out]
                have eT : ((T : Int) == (N : Int)) = true := by rw [hTN]; simp
                clear hTN
                go_wp2_with (go_at_call 9; (with_reducible refine (AWK.out _ hbd).mono ?_); rintro e w10 ⟨rfl, hb2⟩; replace hb := hbd.trans (hb2.mono hbd.size); clear hb2)
                go_ret
                exact ⟨rfl, HWB.out _ hb⟩
          · have P1 := Lib.hid (fun W h => parts_bad _ _ a rs W (HA.out W (HWB.out W h)) (HR.out W (HWB.out W h)) (by rw [← NE.out]; omega) (by rw [← RE.out]; omega))
            have P2 := Lib.hid (fun W h => parts_bad _ _ b rs W (HB.out W (HWB.out W h)) (HR.out W (HWB.out W h)) (by rw [← ME.out]; omega) (by rw [← RE.out]; omega))
            have P3 := Lib.hid (fun W h => parts_bad _ _ (a ++ b) rs W (HV.out W h) (HR.out W (HWB.out W h)) (by rw [← HN.out]; omega) (by rw [← RE.out]; omega))
            have nP : (partE rs != 0) = true := by rw [bne_iff_ne]; exact hPE
            have nPP : (partE rs != partE rs) = false := by simp
            generalize partE rs = PE at P1 P2 P3 nP nPP
            clear hPE
            go_wp2_with (first
              | (go_at_call 10; (with_reducible refine (CH.out _ hb).mono ?_); rintro e w6 ⟨rfl, hb2⟩; replace hb := hb.trans (hb2.mono hb.size); clear hb2)
              | (go_at_call 21; (first | (with_reducible refine (P1.out _ hb).mono ?_) | (with_reducible refine (P2.out _ hb).mono ?_) | (with_reducible refine (P3.out _ hb).mono ?_)); rintro e w7 ⟨v7, rfl, hb2⟩; replace hb := hb.trans (hb2.mono hb.size); clear hb2)
              | (go_at_call 9; (with_reducible refine (AWK.out _ hb).mono ?_); rintro e w10 ⟨rfl, hb2⟩; replace hb := hb.trans (hb2.mono hb.size); clear hb2))
            go_ret
            exact ⟨rfl, HWB.out _ hb⟩
        · have nE : ((checkP (a ++ b) 65536).2 == 0) = false := by simpa using hE
          generalize (checkP (a ++ b) 65536).1 = q1 at CH
          generalize (checkP (a ++ b) 65536).2 = q2 at CH nE
          clear hE CB
          by_cases hPE : partE rs = 0
          · have P1 := Lib.hid (fun W h => parts_ok _ _ a rs hPE W (HA.out W (HWB.out W h)) (HR.out W (HWB.out W h)) (by rw [← NE.out]; omega) (by rw [← RE.out]; omega))
            have P2 := Lib.hid (fun W h => parts_ok _ _ b rs hPE W (HB.out W (HWB.out W h)) (HR.out W (HWB.out W h)) (by rw [← ME.out]; omega) (by rw [← RE.out]; omega))
            have P3 := Lib.hid (fun W h => parts_ok _ _ (a ++ b) rs hPE W (HV.out W h) (HR.out W (HWB.out W h)) (by rw [← HN.out]; omega) (by rw [← RE.out]; omega))
            rw [← RE.out, ← HM.out] at P1 P2 P3
            clear hPE
            go_wp2_with (first
              | (go_at_call 10; (with_reducible refine (CH.out _ hb).mono ?_); rintro e w6 ⟨rfl, hb2⟩; replace hb := hb.trans (hb2.mono hb.size); clear hb2)
              | (go_at_call 21; (with_reducible refine (P1.out _ hb).mono ?_); rintro e w7 ⟨p1, k1, rfl, hi1, hb2⟩; replace hb := hb.trans (hb2.mono hb.size); have I1 := Lib.hid hi1; clear hb2 hi1)
              | (go_at_call 21; (with_reducible refine (P2.out _ hb).mono ?_); rintro e w8 ⟨p2, k2, rfl, hi2, hb2⟩; replace hb := hb.trans (hb2.mono hb.size); replace I1 := Lib.hid (I1.out.below hb2); have I2 := Lib.hid hi2; clear hb2 hi2)
              | (go_at_call 21; (with_reducible refine (P3.out _ hb).mono ?_); rintro e w9 ⟨p3, k3, rfl, hi3, hb2⟩; replace hb := hb.trans (hb2.mono hb.size); replace I1 := Lib.hid (I1.out.below hb2); replace I2 := Lib.hid (I2.out.below hb2); have I3 := Lib.hid hi3; clear hb2 hi3))
            clear P1 P2 P3 CH
            go_loopw [24, 25] (fun s24 s25 wr => ∃ i T : Nat, i ≤ M ∧ T ≤ N ∧ s25 = .int .i64 (i : Int) ∧ s24 = .int .i64 (T : Int) ∧ Hid (T = cumG rs i (a ++ b)) ∧ ∃ d, wr = w9.drewN d) (fun _ s25 _ => M - (intOf s25).toNat)
            case atStart => exact ⟨0, 0, Nat.zero_le _, Nat.zero_le _, rfl, rfl, Lib.hid (cumG_zero _ _).symm, 0, rfl⟩
            case round =>
              obtain ⟨i, T, hi, hT, rfl, rfl, hc, d, rfl⟩ := hrel
              have hbd := below_drewN2 hb d
              by_cases hlt : i < M
              · have tl : decide ((i : Int) < (M : Int)) = true := decide_eq_true (by omega)
                have hlt2 : (i : Int) < (M : Int) := by omega
                have hiR : i < rs.length + 1 := by rw [← RE.out, ← HM.out]; exact hlt
                obtain ⟨b1, o1, rfl, e1⟩ := row_at I1.out (partsL_at rs a hiR)
                obtain ⟨b2, o2, rfl, e2⟩ := row_at I2.out (partsL_at rs b hiR)
                obtain ⟨b3, o3, rfl, e3⟩ := row_at I3.out (partsL_at rs (a ++ b) hiR)
                have hs := cntG_app (gR rs i) a b
                have hl1 := cntG_le (gR rs i) a
                have hl2 := cntG_le (gR rs i) b
                rw [← NE.out] at hl1
                rw [← ME.out] at hl2
                have hcs := cumG_succ rs i (a ++ b)
                have hcl := cumG_le rs (i + 1) (a ++ b)
                rw [← HN.out] at hcl
                rw [← hc.out] at hcs
                have HCS := Lib.hid hcs
                rw [hcs] at hcl
                clear hcs hiR
                generalize cntG (gR rs i) a = y at *
                generalize cntG (gR rs i) b = z at *
                generalize cntG (gR rs i) (a ++ b) = x at *
                have wy : IntKind.i64.wrap ((y : Int) + (z : Int)) = (y : Int) + (z : Int) := IntWalk.i64_in _ (by omega)
                have nx : ((x : Int) != (y : Int) + (z : Int)) = false := by rw [hs]; simp
                have wT : IntKind.i64.wrap ((T : Int) + (x : Int)) = (T : Int) + (x : Int) := IntWalk.i64_in _ (by omega)
                have HTX := Lib.hid hcl
                clear hs hl1 hl2 hcl
                go_wp2
                go_quiet (fail)
                go_wp2
                go_roundw
                case rel => exact ⟨i + 1, T + x, by omega, HTX.out, by go_num, by go_num, Lib.hid HCS.out.symm, _, rfl⟩
                case measure => simp [intOf]; omega
              · have tl : decide ((i : Int) < (M : Int)) = false := decide_eq_false (by omega)
                have hTN : T = N := by rw [hc.out, show i = rs.length + 1 by rw [← RE.out, ← HM.out]; omega, cumG_all, HN.out]
                have eT : ((T : Int) == (N : Int)) = true := by rw [hTN]; simp
                clear hTN
                go_wp2_with (go_at_call 9; (with_reducible refine (AWK.out _ hbd).mono ?_); rintro e w10 ⟨rfl, hb2⟩; replace hb := hbd.trans (hb2.mono hbd.size); clear hb2)
                go_ret
                exact ⟨rfl, HWB.out _ hb⟩
          · have P1 := Lib.hid (fun W h => parts_bad _ _ a rs W (HA.out W (HWB.out W h)) (HR.out W (HWB.out W h)) (by rw [← NE.out]; omega) (by rw [← RE.out]; omega))
            have P2 := Lib.hid (fun W h => parts_bad _ _ b rs W (HB.out W (HWB.out W h)) (HR.out W (HWB.out W h)) (by rw [← ME.out]; omega) (by rw [← RE.out]; omega))
            have P3 := Lib.hid (fun W h => parts_bad _ _ (a ++ b) rs W (HV.out W h) (HR.out W (HWB.out W h)) (by rw [← HN.out]; omega) (by rw [← RE.out]; omega))
            have nP : (partE rs != 0) = true := by rw [bne_iff_ne]; exact hPE
            have nPP : (partE rs != partE rs) = false := by simp
            generalize partE rs = PE at P1 P2 P3 nP nPP
            clear hPE
            go_wp2_with (first
              | (go_at_call 10; (with_reducible refine (CH.out _ hb).mono ?_); rintro e w6 ⟨rfl, hb2⟩; replace hb := hb.trans (hb2.mono hb.size); clear hb2)
              | (go_at_call 21; (first | (with_reducible refine (P1.out _ hb).mono ?_) | (with_reducible refine (P2.out _ hb).mono ?_) | (with_reducible refine (P3.out _ hb).mono ?_)); rintro e w7 ⟨v7, rfl, hb2⟩; replace hb := hb.trans (hb2.mono hb.size); clear hb2)
              | (go_at_call 9; (with_reducible refine (AWK.out _ hb).mono ?_); rintro e w10 ⟨rfl, hb2⟩; replace hb := hb.trans (hb2.mono hb.size); clear hb2))
            go_ret
            exact ⟨rfl, HWB.out _ hb⟩
end Go.Proofs.YtehjncebddoinaaDoor
