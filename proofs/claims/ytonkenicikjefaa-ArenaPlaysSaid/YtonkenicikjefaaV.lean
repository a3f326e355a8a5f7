/- ArenaLogs. -/
import Derived.Test.YtonkenicikjefaaS
namespace Go.Proofs.Ytonkenicikjefaa
open Go.RowKit
def ecl (e : Nat × Nat) : List Value := [.int .i32 (e.1 : Int), .int .i32 (e.2 : Int)]
theorem eflat_get (xs : List (Nat × Nat)) : ∀ i e, xs[i]? = some e → (xs.flatMap ecl)[i * 2]? = some (.int .i32 (e.1 : Int)) ∧ (xs.flatMap ecl)[i * 2 + 1]? = some (.int .i32 (e.2 : Int)) := by
  induction xs with
  | nil => intro i r h; simp at h
  | cons q rs ih =>
    intro i r h
    cases i with
    | zero => simp at h; subst h; exact ⟨rfl, rfl⟩
    | succ i =>
      have := ih i r (by simpa using h)
      rw [List.flatMap_cons, show (i + 1) * 2 = (ecl q).length + i * 2 by simp [ecl]; omega, Nat.add_assoc, List.getElem?_append_right (by omega), List.getElem?_append_right (by omega), Nat.add_sub_cancel_left, Nat.add_sub_cancel_left]
      exact this
/-- The row 'want'. -/
def WR (W : World) (B : Nat) (v : Value) (tr : List (Nat × Nat)) : Prop := W.ownsRow B 70 2 v tr.length (tr.flatMap ecl)
theorem WR.es {w : World} {B : Nat} {v : Value} {xs : List (Nat × Nat)} (h : WR w B v xs) : ES w v xs := by
  obtain ⟨q, c, rfl⟩ := own_shape h
  refine ⟨q, c, rfl, fun i e hi => ?_⟩
  have hj := (List.getElem?_eq_some_iff.1 hi).1
  obtain ⟨f0, f1⟩ := eflat_get xs i e hi
  have hlt := World.ownsRow.lt h
  rcases h.2 with ⟨h1, h2⟩ | ⟨g, cap, cur, h1, _, _, h3, _⟩
  · omega
  · cases h1
    refine ⟨g, 0, rfl, ?_⟩
    rw [Nat.zero_add]
    exact ⟨(World.ownsRow.cellAt h _ (by omega)).trans f0, (World.ownsRow.cellAt h _ (by omega)).trans f1, (hlt g rfl).2⟩
theorem WR.of {w w' : World} {B : Nat} {v : Value} {xs : List (Nat × Nat)} (h : WR w B v xs) (k : ∀ g, v.ownBlock = some g → w'.heap[g]? = w.heap[g]?) : WR w' B v xs := own_of_block h k
theorem WR.below {w w' : World} {B : Nat} {v : Value} {xs : List (Nat × Nat)} (h : WR w B v xs) (hb : Below w.heap.size w w') : WR w' B v xs := own_below h hb
/-- The blocks of 'want'. -/
def Wb (v : Value) (b : Nat) : Prop := v.ownBlock = some b
/-- The loop's relation. -/
def LogsR (w : World) (p n k : Nat) (v : Value) (wr : World) : Prop := ∃ (cs : List Nat) (rs : List Rg) (tr : List (Nat × Nat)), Ow w wr (Wb v) p cs rs tr ∧ cs.length = n ∧ tr.length ≤ k ∧ WR wr w.heap.size v tr
theorem ev_info : (Try.prog.info? 70).map (fun i => (i.zero, i.size, i.bytes)) = some (some (.agg #[.int .i32 0, .int .i32 0]), 2, 8) := by kernel_rfl
theorem ev_new (w : World) (e : Nat × Nat) : ∀ j u, (ecl e)[j]? = some u → (w.alloc (.cells #[.int .i32 (e.1 : Int), .int .i32 (e.2 : Int)] 70)).cell? ((⟨w.heap.size, 0, none⟩ : Addr).add j) = some u := by
  intro j u hj
  have hc := fun i => cell_blk (heap_alloc_new w (.cells #[.int .i32 (e.1 : Int), .int .i32 (e.2 : Int)] 70)) i
  rw [Addr.add_mid, hc, Nat.zero_add]
  simpa [ecl] using hj
theorem ecl_one (e : Nat × Nat) : ∀ u ∈ ecl e, u.oneCell' = true := by intro u hu; simp [ecl] at hu; rcases hu with rfl | rfl <;> rfl
/-- An event is appended to 'want'. -/
theorem logs_app {w W w5 : World} {o : Obj} {p n : Nat} {v v' : Value} {cs : List Nat} {rs : List Rg} {tr tr' : List (Nat × Nat)} {R : Nat → Prop} (e : Nat × Nat) (h : Ow w W R p cs rs tr') (hR : ∀ b, Wb v b → R b)
    (hw : WR W w.heap.size v tr) (hg : (W.alloc o).grownBy w5 v.ownBlock) (hat : v'.ownBlock = v.ownBlock ∨ v'.ownBlock = some (W.alloc o).heap.size)
    (hown : w5.ownsRow w.heap.size 70 2 v' (tr.length + 1) (tr.flatMap ecl ++ ecl e)) (_ : cs.length = n) : Ow w w5 (Wb v') p cs rs tr' ∧ WR w5 w.heap.size v' (tr ++ [e]) := by
  refine ⟨h.kept (G := Wb v) (((Kept.refl (Wb v) W).alloc o).grown hg (fun k hk => .inl hk)) (fun k hk => ⟨.inl (hR k hk), (World.ownsRow.lt hw k hk).1⟩) (fun k hk => ⟨(World.ownsRow.lt hown k hk).2, ?_⟩), ?_⟩
  · rcases hat with h1 | h1
    · exact .inl (hR k (by unfold Wb at *; rw [← h1]; exact hk))
    · right
      unfold Wb at hk
      rw [h1] at hk
      cases hk
      simp
  · unfold WR
    rw [List.length_append, List.length_singleton, List.flatMap_append]
    simpa using hown
theorem URow.of_block {w w' : World} {g n c : Nat} {xs : List Nat} (h : URow w (.slice (some ⟨g, 0, none⟩) n c) xs) (e : w'.heap[g]? = w.heap[g]?) : URow w' (.slice (some ⟨g, 0, none⟩) n c) xs := by
  obtain ⟨q, c', hq, hl, hx⟩ := h
  refine ⟨q, c', hq, hl, fun i x hi => ?_⟩
  obtain ⟨b, o, rfl, hc⟩ := hx i x hi
  cases hq
  exact ⟨g, 0, rfl, (World.cell?_of_block (w := w) (a := ⟨g, 0 + i, none⟩) e).trans hc⟩
theorem ow_cells2 {w0 W : World} {R : Nat → Prop} {p n : Nat} {cs : List Nat} {rs : List Rg} {tr : List (Nat × Nat)} (h : Ow w0 W R p cs rs tr) (hn : cs.length = n) : Calls Try.prog 24 #[.pointer (some ⟨p, 0, none⟩)] W fun e w' => ∃ g c, e = .returned (.slice (some ⟨g, 0, none⟩) n c) ∧ URow w' (.slice (some ⟨g, 0, none⟩) n c) cs ∧ Below W.heap.size W w' ∧ Ow w0 w' (fun b => R b ∨ b = g) p cs rs tr := by
  subst hn
  refine (ow_cells h).mono ?_
  rintro e w' ⟨g, c, rfl, hg, ho, hb⟩
  refine ⟨g, c, rfl, ho.row, hb, h.beside hb fun k hk => ?_⟩
  rcases hk with h1 | h1
  · exact ⟨Nat.lt_of_lt_of_le (h.rlt k h1) hb.size, .inl h1⟩
  · subst h1; exact ⟨ho.lt, .inr hg⟩
theorem en_steps2 {w W : World} {R : Nat → Prop} {p : Nat} {cs : List Nat} {rs : List Rg} {tr : List (Nat × Nat)} {e : Nat × Nat} (h : Ow w W R p cs rs (tr ++ [e])) : Calls Try.prog 15 #[.pointer (some ⟨p, 0, none⟩)] W fun e w' => e = .returned (.int .i64 ((tr.length : Int) + 1)) ∧ W = w' := by
  have := ow_steps h
  rw [List.length_append, List.length_singleton, Int.natCast_add] at this
  exact this
theorem ow_steps0 {w W : World} {R : Nat → Prop} {p : Nat} {cs : List Nat} {rs : List Rg} (h : Ow w W R p cs rs []) : Calls Try.prog 15 #[.pointer (some ⟨p, 0, none⟩)] W fun e w' => e = .returned (.int .i64 0) ∧ W = w' := ow_steps h
theorem ow_find {w W : World} {R : Nat → Prop} {p : Nat} {cs : List Nat} {rs : List Rg} {tr : List (Nat × Nat)} (h : Ow w W R p cs rs tr) (s : ByteArray) : ∃ r e, Calls Try.prog 27 #[.pointer (some ⟨p, 0, none⟩), .string s] W (FiPost W r e) := by
  rcases idxI_cases rs s with ⟨e, _⟩ | ⟨k, r, e, hr, _⟩
  · exact ⟨_, _, ow_find_none h s e⟩
  · exact ⟨_, _, ow_find_some h s k r e hr⟩
theorem own_cap {w : World} {B : Nat} {e : TypeId} {s n c : Nat} {q : Option Addr} {xs : List Value} (h : w.ownsRow B e s (.slice q n c) n xs) : n ≤ c := by
  rcases h.2 with ⟨h1, h2⟩ | ⟨g, cap, cur, h1, _, _, h3, _⟩
  · omega
  · cases h1; exact h3
theorem same_evs {a b : Value} {xs : List (Nat × Nat)} {w : World} (ha : ES w a xs) (hb : ES w b xs) (hl : xs.length ≤ 100000000) : Calls Try.prog 17 #[a, b] w fun e w' => e = .returned (.bool true) ∧ Below w.heap.size w w' := by
  refine (same_ev a b xs xs w ha hb hl).mono ?_
  rintro e w' ⟨rfl, d, rfl⟩
  exact ⟨by rw [eqB_true rfl], below_drewN (Below.refl _ _) d⟩
theorem es_drop {w : World} {q : Option Addr} {N c c' j : Nat} {xs : List (Nat × Nat)} (h : ES w (.slice q N c) xs) (hN : N = xs.length) : ES w (.slice (Option.map (fun x => x.add (j * 2)) q) (N - j) c') (xs.drop j) := by
  obtain ⟨q', c2, hq, hx⟩ := h
  cases hq
  refine ⟨_, c', by rw [List.length_drop, hN], fun i e hi => ?_⟩
  rw [List.getElem?_drop] at hi
  obtain ⟨b, o, rfl, h1, h2, h3⟩ := hx (j + i) e hi
  refine ⟨b, o + j * 2, ?_, ?_, ?_, h3⟩
  · simp [Addr.add_mid]
  · rw [← h1]; congr 2; omega
  · rw [← h2]; congr 2; omega
theorem es_drop0 {w : World} {q : Option Addr} {N c j : Nat} {xs : List (Nat × Nat)} (hN : N = xs.length) (hj : N ≤ j) : ES w (.slice q (N - j) c) (xs.drop j) := by
  refine ⟨_, c, by rw [List.length_drop, hN], fun i e hi => ?_⟩
  rw [List.getElem?_drop, List.getElem?_eq_none (by omega)] at hi
  cases hi
def LogsS (w : World) (p : Nat) (cs : List Nat) (rs : List Rg) (tr : List (Nat × Nat)) (v : Value) (wr : World) : Prop := ∃ R, Ow w wr R p cs rs tr ∧ ES wr v tr
set_option maxRecDepth 100000 in
set_option maxHeartbeats 8000000 in
theorem logs_any (v : Value) (a : Int) (l : List Cl) (w : World) (hl : CS w v l) (ha : 0 ≤ a ∧ a < 65536) : Calls Try.prog 6 #[.int .u16 a, v] w fun e w' => e = .returned (.bool true) ∧ Below w.heap.size w w' := by
  have AW := Lib.hid awake_any
  have FA := Lib.hid (far_any v l w hl)
  obtain ⟨q, c, rfl, hx⟩ := hl
  obtain ⟨m, hm⟩ : ∃ m, m = l.length := ⟨_, rfl⟩
  rw [← hm] at FA ⊢
  obtain ⟨n, hn, hn1, hn2⟩ : ∃ n : Nat, (1 + a % 300) = (n : Int) ∧ 1 ≤ n ∧ n ≤ 300 := by
    exact ⟨(1 + a % 300).toNat, by omega, by omega, by omega⟩
  have NW := Lib.hid (ow_new n w w (Wb (.slice none 0 0)) (Below.refl _ w) (fun k h => by cases h) hn1 (by omega))
  have HX := Lib.hid hx
  have HM := Lib.hid hm
  clear hx hm
  obtain ⟨i0, hi, hz0, hz1, hz2⟩ := info_parts ev_info
  go_enter Try.func6, Try.ntmps6
  go_wp2_with (first
    | (go_at_call 10; (with_reducible refine (FA.out).mono ?_); rintro e w' ⟨b, rfl, rfl, hfar⟩; have HF := Lib.hid hfar; clear hfar; cases b)
    | (go_at_call 11; (with_reducible refine (AW.out _).mono ?_); rintro e w13 ⟨rfl, hb13⟩)
    | (go_at_call 12; (with_reducible refine (NW.out).mono ?_); rintro e w1 ⟨p, rfl, h1, hb1⟩; have H1 := Lib.hid h1; clear h1 hb1))
  rotate_left
  · go_ret
    exact ⟨rfl, hb13⟩
  obtain ⟨hlen, hnam⟩ := HF.out (by trivial)
  rw [← HM.out] at hlen
  have HNM := Lib.hid hnam
  have HO : Hid (LogsR w p n 0 (.slice none 0 0) w1) := Lib.hid ⟨_, _, _, H1.out, List.length_replicate .., Nat.le_refl _, World.ownsRow_nil _ _ _ _⟩
  clear H1 HF NW FA hn ha hnam
  go_loopw [8, 9] (fun v i wr => ∃ k : Nat, k ≤ m ∧ i = .int .i64 (k : Int) ∧ LogsR w p n k v wr) (fun _ i _ => m - (intOf i).toNat)
  case atStart => exact ⟨0, Nat.zero_le _, rfl, HO.out⟩
  case round =>
    obtain ⟨k, hk, rfl, cs, rs, tr, ho, hcl, htl, hlr⟩ := hrel
    clear HO
    obtain ⟨qv, cv, rfl⟩ := own_shape hlr
    have OH := Lib.hid ho
    have LH := Lib.hid hlr
    have CH := Lib.hid hcl
    clear ho hcl hlr
    by_cases hlt : k < m
    · have t1 : decide ((k : Int) < (m : Int)) = true := decide_eq_true (by omega)
      have t1' : (k : Int) < (m : Int) := by omega
      obtain ⟨⟨wh, ps, nm, vl, sn⟩, hx⟩ : ∃ x, l[k]? = some x := ⟨_, List.getElem?_eq_getElem (by rw [← HM.out]; exact hlt)⟩
      have hsn := HNM.out _ (List.mem_of_getElem? hx)
      obtain ⟨b, o, hq, hbl, ⟨_, hps, hnm, hvl⟩, y0, y1, y2, y3, y4⟩ := HX.out k _ hx
      dsimp only at hps hnm hvl hsn y0 y1 y2 y3 y4
      subst hq
      have x0 := (OH.out.bel.cell (p := ⟨b, o + k * 5, none⟩) hbl).trans y0
      have x1 := (OH.out.bel.cell (p := ⟨b, o + k * 5 + 1, none⟩) hbl).trans y1
      have x2 := (OH.out.bel.cell (p := ⟨b, o + k * 5 + 2, none⟩) hbl).trans y2
      have x3 := (OH.out.bel.cell (p := ⟨b, o + k * 5 + 3, none⟩) hbl).trans y3
      have x4 := (OH.out.bel.cell (p := ⟨b, o + k * 5 + 4, none⟩) hbl).trans y4
      have O2 := Lib.hid (ow_fresh OH.out (clO wh ps nm vl sn))
      have L2 := Lib.hid (show WR (wr.alloc (clO wh ps nm vl sn)) w.heap.size (.slice qv tr.length cv) tr from World.ownsRow.alloc LH.out (clO wh ps nm vl sn))
      have hXX := Lib.hid (heap_alloc_new wr (clO wh ps nm vl sn))
      clear hx y0 y1 y2 y3 y4
      have htl2 : tr.length < 8388608 := by omega
      have h9 : wh % 9 = 0 ∨ wh % 9 = 1 ∨ wh % 9 = 2 ∨ wh % 9 = 3 ∨ wh % 9 = 4 ∨ wh % 9 = 5 ∨ wh % 9 = 8 ∨ wh % 9 = 6 ∨ wh % 9 = 7 := by omega
      rcases h9 with h9 | h9 | h9 | h9 | h9 | h9 | h9 | h9 | h9
      · have e9 : (wh : Int) % 9 = 0 := by omega
        clear h9
        by_cases hgood : 0 ≤ ps ∧ ps < (n : Int)
        · obtain ⟨at_, rfl⟩ : ∃ a : Nat, ps = (a : Int) := ⟨ps.toNat, by omega⟩
          have ga : at_ < 300 := by omega
          obtain ⟨z, hz⟩ : ∃ z, z = cs.getD at_ 0 := ⟨_, rfl⟩
          have LD := Lib.hid (ow_load O2.out at_ (by rw [CH.out]; omega) htl2)
          rw [← hz] at LD
          clear hgood hz
          go_wp2_with (first
            | (go_at_call 28; (with_reducible refine (LD.out).mono ?_); rintro e w3 ⟨rfl, h3, _, hR⟩; have H3 := Lib.hid h3; have L3 := Lib.hid (WR.of L2.out (fun g hg => hR g (.inl hg))); have hcc := cl_cells ((hR wr.heap.size (.inr rfl)).trans hXX.out); have z1 := hcc.2.1; clear h3 hR hcc)
            | (go_at_call 30; (with_reducible refine (LD.out).mono ?_); rintro e w3 ⟨rfl, h3, _, hR⟩; have H3 := Lib.hid h3; have L3 := Lib.hid (WR.of L2.out (fun g hg => hR g (.inl hg))); have hcc := cl_cells ((hR wr.heap.size (.inr rfl)).trans hXX.out); have z1 := hcc.2.1; clear h3 hR hcc)
            | (at_builtin; refine wpList_append_own_at _ rfl _ _ 38 rfl w.heap.size 70 i0 (.agg #[.int .i32 0, .int .i32 0]) 2 8 Try.underlying38 hi hz0 hz1 hz2 rfl (by decide) (.slice qv tr.length cv) tr.length (tr.flatMap ecl) rfl (World.ownsRow.alloc L3.out _) ⟨w3.heap.size, 0, none⟩ 1 1 (ecl (1, at_)) rfl rfl (ev_new w3 (1, at_)) (ecl_one _) (by simp only [maxLen]; omega) (by omega) (by have := H3.out.bel.size; simp only [World.size_alloc]; omega) ?_; intro v' w5 hown' hgrow _ hat; have hv := logs_app (1, at_) H3.out (fun b hb => .inl hb) L3.out hgrow hat hown' rfl; have HV := Lib.hid hv.1; have HW := Lib.hid hv.2; clear hv; obtain ⟨q5, c5, rfl⟩ := own_shape hown'; clear hown' hgrow hat)
            | (go_at_call 15; (with_reducible refine (en_steps2 HV.out).mono ?_); rintro e w' ⟨rfl, rfl⟩))
          go_roundw
          case rel => exact ⟨k + 1, by omega, by go_num, cs, rs, tr ++ [(1, at_)], HV.out, by first | exact CH.out | (rw [List.length_set]; exact CH.out), by first | omega | (rw [List.length_append, List.length_singleton]; omega) | (rw [List.length_nil]; omega), HW.out⟩
          case measure => simp [intOf]; omega
        · have hE : stepE cs.length tr.length ps = 7 := stepE_range (by rw [CH.out]; omega)
          have LB := Lib.hid (ow_load_bad O2.out ps (by rw [hE]; decide))
          rw [hE] at LB
          clear hE hgood
          go_wp2_with (first
            | (go_at_call 28; (with_reducible refine (LB.out).mono ?_); rintro e w' ⟨rfl, rfl⟩)
            | (go_at_call 30; (with_reducible refine (LB.out).mono ?_); rintro e w' ⟨rfl, rfl⟩)
            | (go_at_call 15; (with_reducible refine (ow_steps O2.out).mono ?_); rintro e w' ⟨rfl, rfl⟩))
          go_roundw
          case rel => exact ⟨k + 1, by omega, by go_num, cs, rs, tr, ow_less O2.out (fun _ h => .inl h), by first | exact CH.out | (rw [List.length_set]; exact CH.out), by first | omega | (rw [List.length_append, List.length_singleton]; omega) | (rw [List.length_nil]; omega), L2.out⟩
          case measure => simp [intOf]; omega
      · have e9 : (wh : Int) % 9 = 1 := by omega
        clear h9
        by_cases hgood : 0 ≤ ps ∧ ps < (n : Int)
        · obtain ⟨at_, rfl⟩ : ∃ a : Nat, ps = (a : Int) := ⟨ps.toNat, by omega⟩
          have ga : at_ < 300 := by omega
          obtain ⟨z, hz⟩ : ∃ z, z = cs.getD at_ 0 := ⟨_, rfl⟩
          have LD := Lib.hid (ow_load O2.out at_ (by rw [CH.out]; omega) htl2)
          rw [← hz] at LD
          clear hgood hz
          go_wp2_with (first
            | (go_at_call 28; (with_reducible refine (LD.out).mono ?_); rintro e w3 ⟨rfl, h3, _, hR⟩; have H3 := Lib.hid h3; have L3 := Lib.hid (WR.of L2.out (fun g hg => hR g (.inl hg))); have hcc := cl_cells ((hR wr.heap.size (.inr rfl)).trans hXX.out); have z1 := hcc.2.1; clear h3 hR hcc)
            | (go_at_call 30; (with_reducible refine (LD.out).mono ?_); rintro e w3 ⟨rfl, h3, _, hR⟩; have H3 := Lib.hid h3; have L3 := Lib.hid (WR.of L2.out (fun g hg => hR g (.inl hg))); have hcc := cl_cells ((hR wr.heap.size (.inr rfl)).trans hXX.out); have z1 := hcc.2.1; clear h3 hR hcc)
            | (at_builtin; refine wpList_append_own_at _ rfl _ _ 38 rfl w.heap.size 70 i0 (.agg #[.int .i32 0, .int .i32 0]) 2 8 Try.underlying38 hi hz0 hz1 hz2 rfl (by decide) (.slice qv tr.length cv) tr.length (tr.flatMap ecl) rfl (World.ownsRow.alloc L3.out _) ⟨w3.heap.size, 0, none⟩ 1 1 (ecl (1, at_)) rfl rfl (ev_new w3 (1, at_)) (ecl_one _) (by simp only [maxLen]; omega) (by omega) (by have := H3.out.bel.size; simp only [World.size_alloc]; omega) ?_; intro v' w5 hown' hgrow _ hat; have hv := logs_app (1, at_) H3.out (fun b hb => .inl hb) L3.out hgrow hat hown' rfl; have HV := Lib.hid hv.1; have HW := Lib.hid hv.2; clear hv; obtain ⟨q5, c5, rfl⟩ := own_shape hown'; clear hown' hgrow hat)
            | (go_at_call 15; (with_reducible refine (en_steps2 HV.out).mono ?_); rintro e w' ⟨rfl, rfl⟩))
          go_roundw
          case rel => exact ⟨k + 1, by omega, by go_num, cs, rs, tr ++ [(1, at_)], HV.out, by first | exact CH.out | (rw [List.length_set]; exact CH.out), by first | omega | (rw [List.length_append, List.length_singleton]; omega) | (rw [List.length_nil]; omega), HW.out⟩
          case measure => simp [intOf]; omega
        · have hE : stepE cs.length tr.length ps = 7 := stepE_range (by rw [CH.out]; omega)
          have LB := Lib.hid (ow_load_bad O2.out ps (by rw [hE]; decide))
          rw [hE] at LB
          clear hE hgood
          go_wp2_with (first
            | (go_at_call 28; (with_reducible refine (LB.out).mono ?_); rintro e w' ⟨rfl, rfl⟩)
            | (go_at_call 30; (with_reducible refine (LB.out).mono ?_); rintro e w' ⟨rfl, rfl⟩)
            | (go_at_call 15; (with_reducible refine (ow_steps O2.out).mono ?_); rintro e w' ⟨rfl, rfl⟩))
          go_roundw
          case rel => exact ⟨k + 1, by omega, by go_num, cs, rs, tr, ow_less O2.out (fun _ h => .inl h), by first | exact CH.out | (rw [List.length_set]; exact CH.out), by first | omega | (rw [List.length_append, List.length_singleton]; omega) | (rw [List.length_nil]; omega), L2.out⟩
          case measure => simp [intOf]; omega
      · have e9 : (wh : Int) % 9 = 2 := by omega
        clear h9
        by_cases hgood : 0 ≤ ps ∧ ps < (n : Int)
        · obtain ⟨at_, rfl⟩ : ∃ a : Nat, ps = (a : Int) := ⟨ps.toNat, by omega⟩
          have ga : at_ < 300 := by omega
          have LD := Lib.hid (ow_store O2.out at_ vl (by rw [CH.out]; omega) hvl htl2)
          clear hgood
          go_wp2_with (first
            | (go_at_call 28; (with_reducible refine (LD.out).mono ?_); rintro e w3 ⟨rfl, h3, _, hR⟩; have H3 := Lib.hid h3; have L3 := Lib.hid (WR.of L2.out (fun g hg => hR g (.inl hg))); have hcc := cl_cells ((hR wr.heap.size (.inr rfl)).trans hXX.out); have z1 := hcc.2.1; clear h3 hR hcc)
            | (go_at_call 30; (with_reducible refine (LD.out).mono ?_); rintro e w3 ⟨rfl, h3, _, hR⟩; have H3 := Lib.hid h3; have L3 := Lib.hid (WR.of L2.out (fun g hg => hR g (.inl hg))); have hcc := cl_cells ((hR wr.heap.size (.inr rfl)).trans hXX.out); have z1 := hcc.2.1; clear h3 hR hcc)
            | (at_builtin; refine wpList_append_own_at _ rfl _ _ 38 rfl w.heap.size 70 i0 (.agg #[.int .i32 0, .int .i32 0]) 2 8 Try.underlying38 hi hz0 hz1 hz2 rfl (by decide) (.slice qv tr.length cv) tr.length (tr.flatMap ecl) rfl (World.ownsRow.alloc L3.out _) ⟨w3.heap.size, 0, none⟩ 1 1 (ecl (2, at_)) rfl rfl (ev_new w3 (2, at_)) (ecl_one _) (by simp only [maxLen]; omega) (by omega) (by have := H3.out.bel.size; simp only [World.size_alloc]; omega) ?_; intro v' w5 hown' hgrow _ hat; have hv := logs_app (2, at_) H3.out (fun b hb => .inl hb) L3.out hgrow hat hown' rfl; have HV := Lib.hid hv.1; have HW := Lib.hid hv.2; clear hv; obtain ⟨q5, c5, rfl⟩ := own_shape hown'; clear hown' hgrow hat)
            | (go_at_call 15; (with_reducible refine (en_steps2 HV.out).mono ?_); rintro e w' ⟨rfl, rfl⟩))
          go_roundw
          case rel => exact ⟨k + 1, by omega, by go_num, cs.set at_ vl, rs, tr ++ [(2, at_)], HV.out, by first | exact CH.out | (rw [List.length_set]; exact CH.out), by first | omega | (rw [List.length_append, List.length_singleton]; omega) | (rw [List.length_nil]; omega), HW.out⟩
          case measure => simp [intOf]; omega
        · have hE : stepE cs.length tr.length ps = 7 := stepE_range (by rw [CH.out]; omega)
          have LB := Lib.hid (ow_store_bad O2.out ps vl (by rw [hE]; decide))
          rw [hE] at LB
          clear hE hgood
          go_wp2_with (first
            | (go_at_call 28; (with_reducible refine (LB.out).mono ?_); rintro e w' ⟨rfl, rfl⟩)
            | (go_at_call 30; (with_reducible refine (LB.out).mono ?_); rintro e w' ⟨rfl, rfl⟩)
            | (go_at_call 15; (with_reducible refine (ow_steps O2.out).mono ?_); rintro e w' ⟨rfl, rfl⟩))
          go_roundw
          case rel => exact ⟨k + 1, by omega, by go_num, cs, rs, tr, ow_less O2.out (fun _ h => .inl h), by first | exact CH.out | (rw [List.length_set]; exact CH.out), by first | omega | (rw [List.length_append, List.length_singleton]; omega) | (rw [List.length_nil]; omega), L2.out⟩
          case measure => simp [intOf]; omega
      · have e9 : (wh : Int) % 9 = 3 := by omega
        clear h9
        by_cases hgood : 0 ≤ ps ∧ ps < (n : Int)
        · obtain ⟨at_, rfl⟩ : ∃ a : Nat, ps = (a : Int) := ⟨ps.toNat, by omega⟩
          have ga : at_ < 300 := by omega
          have LD := Lib.hid (ow_store O2.out at_ vl (by rw [CH.out]; omega) hvl htl2)
          clear hgood
          go_wp2_with (first
            | (go_at_call 28; (with_reducible refine (LD.out).mono ?_); rintro e w3 ⟨rfl, h3, _, hR⟩; have H3 := Lib.hid h3; have L3 := Lib.hid (WR.of L2.out (fun g hg => hR g (.inl hg))); have hcc := cl_cells ((hR wr.heap.size (.inr rfl)).trans hXX.out); have z1 := hcc.2.1; clear h3 hR hcc)
            | (go_at_call 30; (with_reducible refine (LD.out).mono ?_); rintro e w3 ⟨rfl, h3, _, hR⟩; have H3 := Lib.hid h3; have L3 := Lib.hid (WR.of L2.out (fun g hg => hR g (.inl hg))); have hcc := cl_cells ((hR wr.heap.size (.inr rfl)).trans hXX.out); have z1 := hcc.2.1; clear h3 hR hcc)
            | (at_builtin; refine wpList_append_own_at _ rfl _ _ 38 rfl w.heap.size 70 i0 (.agg #[.int .i32 0, .int .i32 0]) 2 8 Try.underlying38 hi hz0 hz1 hz2 rfl (by decide) (.slice qv tr.length cv) tr.length (tr.flatMap ecl) rfl (World.ownsRow.alloc L3.out _) ⟨w3.heap.size, 0, none⟩ 1 1 (ecl (2, at_)) rfl rfl (ev_new w3 (2, at_)) (ecl_one _) (by simp only [maxLen]; omega) (by omega) (by have := H3.out.bel.size; simp only [World.size_alloc]; omega) ?_; intro v' w5 hown' hgrow _ hat; have hv := logs_app (2, at_) H3.out (fun b hb => .inl hb) L3.out hgrow hat hown' rfl; have HV := Lib.hid hv.1; have HW := Lib.hid hv.2; clear hv; obtain ⟨q5, c5, rfl⟩ := own_shape hown'; clear hown' hgrow hat)
            | (go_at_call 15; (with_reducible refine (en_steps2 HV.out).mono ?_); rintro e w' ⟨rfl, rfl⟩))
          go_roundw
          case rel => exact ⟨k + 1, by omega, by go_num, cs.set at_ vl, rs, tr ++ [(2, at_)], HV.out, by first | exact CH.out | (rw [List.length_set]; exact CH.out), by first | omega | (rw [List.length_append, List.length_singleton]; omega) | (rw [List.length_nil]; omega), HW.out⟩
          case measure => simp [intOf]; omega
        · have hE : stepE cs.length tr.length ps = 7 := stepE_range (by rw [CH.out]; omega)
          have LB := Lib.hid (ow_store_bad O2.out ps vl (by rw [hE]; decide))
          rw [hE] at LB
          clear hE hgood
          go_wp2_with (first
            | (go_at_call 28; (with_reducible refine (LB.out).mono ?_); rintro e w' ⟨rfl, rfl⟩)
            | (go_at_call 30; (with_reducible refine (LB.out).mono ?_); rintro e w' ⟨rfl, rfl⟩)
            | (go_at_call 15; (with_reducible refine (ow_steps O2.out).mono ?_); rintro e w' ⟨rfl, rfl⟩))
          go_roundw
          case rel => exact ⟨k + 1, by omega, by go_num, cs, rs, tr, ow_less O2.out (fun _ h => .inl h), by first | exact CH.out | (rw [List.length_set]; exact CH.out), by first | omega | (rw [List.length_append, List.length_singleton]; omega) | (rw [List.length_nil]; omega), L2.out⟩
          case measure => simp [intOf]; omega
      · have e9 : (wh : Int) % 9 = 4 := by omega
        clear h9
        by_cases hE : regE cs.length rs sn nm = 0
        · obtain ⟨kk, rfl⟩ : ∃ kk : Nat, nm = (kk : Int) := ⟨nm.toNat, by have := (regE_zero hE).2.1; omega⟩
          have RG := Lib.hid (ow_region O2.out sn kk (by omega) hE)
          obtain ⟨E, hEE⟩ : ∃ E, E = endR rs := ⟨_, rfl⟩
          rw [← hEE] at RG
          clear hE hEE
          go_wp2_with (first
            | (go_at_call 26; (with_reducible refine (RG.out).mono ?_); rintro e w3 ⟨rfl, h3, _, hR⟩; have H3 := Lib.hid h3; have L3 := Lib.hid (WR.of L2.out (fun g hg => hR g (.inl hg))); clear h3 hR)
            | (go_at_call 15; (with_reducible refine (ow_steps H3.out).mono ?_); rintro e w' ⟨rfl, rfl⟩))
          go_roundw
          case rel => exact ⟨k + 1, by omega, by go_num, cs, rs ++ [⟨sn, E, kk⟩], tr, ow_less H3.out (fun _ h => .inl h), by first | exact CH.out | (rw [List.length_set]; exact CH.out), by first | omega | (rw [List.length_append, List.length_singleton]; omega) | (rw [List.length_nil]; omega), L3.out⟩
          case measure => simp [intOf]; omega
        · have RB := Lib.hid (ow_region_bad O2.out sn nm (by omega) hE)
          generalize regE cs.length rs sn nm = E at *
          clear hE
          go_wp2_with (first
            | (go_at_call 26; (with_reducible refine (RB.out).mono ?_); rintro e w3 ⟨rfl, hb3⟩; have H3 := Lib.hid (O2.out.below hb3); have L3 := Lib.hid (L2.out.below hb3); clear hb3)
            | (go_at_call 15; (with_reducible refine (ow_steps H3.out).mono ?_); rintro e w' ⟨rfl, rfl⟩))
          go_roundw
          case rel => exact ⟨k + 1, by omega, by go_num, cs, rs, tr, ow_less H3.out (fun _ h => .inl h), by first | exact CH.out | (rw [List.length_set]; exact CH.out), by first | omega | (rw [List.length_append, List.length_singleton]; omega) | (rw [List.length_nil]; omega), L3.out⟩
          case measure => simp [intOf]; omega
      · have e9 : (wh : Int) % 9 = 5 := by omega
        clear h9
        obtain ⟨fr, fe, FD⟩ := ow_find O2.out sn
        have FD := Lib.hid FD
        unfold FiPost rgV at FD
        go_wp2_with (first
          | (go_at_call 27; (with_reducible refine (FD.out).mono ?_); rintro e w3 ⟨rfl, hb3⟩; have H3 := Lib.hid (O2.out.below hb3); have L3 := Lib.hid (L2.out.below hb3); clear hb3)
          | (go_at_call 15; (with_reducible refine (ow_steps H3.out).mono ?_); rintro e w' ⟨rfl, rfl⟩))
        go_roundw
        case rel => exact ⟨k + 1, by omega, by go_num, cs, rs, tr, ow_less H3.out (fun _ h => .inl h), by first | exact CH.out | (rw [List.length_set]; exact CH.out), by first | omega | (rw [List.length_append, List.length_singleton]; omega) | (rw [List.length_nil]; omega), L3.out⟩
        case measure => simp [intOf]; omega
      · have e9 : (wh : Int) % 9 = 8 := by omega
        clear h9
        go_wp2_with (first
          | (go_at_call 24; (with_reducible refine (ow_cells2 O2.out CH.out).mono ?_); rintro e w5 ⟨g5, c5, rfl, hu5, hb5, h5⟩; have U5 := Lib.hid hu5; have O5 := Lib.hid h5; clear hu5 hb5 h5)
          | (go_at_call 33; (with_reducible refine (ow_forget O5.out).mono ?_); rintro e w6 ⟨rfl, h6, _, hR⟩; have O6 := Lib.hid h6; have U6 := Lib.hid (URow.of_block U5.out (hR g5 (.inr rfl))); clear h6 hR)
          | (go_at_call 24; (with_reducible refine (ow_cells' O6.out CH.out).mono ?_); rintro e w7 ⟨g7, c7, rfl, hu7, hb7⟩; have U7 := Lib.hid hu7; have V7 := Lib.hid (U6.out.below hb7); have O7 := Lib.hid (O6.out.below hb7); clear hu7 hb7)
          | (go_at_call 23; (with_reducible refine (same_self U7.out V7.out (by rw [CH.out]; omega)).mono ?_); rintro e w8 ⟨rfl, hb8⟩; have O8 := Lib.hid (O7.out.below hb8); clear hb8)
          | (go_at_call 15; (with_reducible refine (ow_steps0 O8.out).mono ?_); rintro e w' ⟨rfl, rfl⟩))
        go_roundw
        case rel => exact ⟨k + 1, by omega, by go_num, cs, rs, [], ow_less O8.out (fun _ h => by cases h), by first | exact CH.out | (rw [List.length_set]; exact CH.out), by first | omega | (rw [List.length_append, List.length_singleton]; omega) | (rw [List.length_nil]; omega), World.ownsRow_nil _ _ _ _⟩
        case measure => simp [intOf]; omega
      · have e9 : (wh : Int) % 9 = 6 := by omega
        clear h9
        have LH2 := Lib.hid (ow_has O2.out ps nm hps)
        have LR2 := Lib.hid (ow_room O2.out nm)
        by_cases hk0 : nm < 0 ∨ (tr.length : Int) < nm
        · have LS := Lib.hid (ow_since_bad O2.out nm hk0)
          clear hk0
          go_wp2_with (first
            | (go_at_call 31; (with_reducible refine (LH2.out).mono ?_); rintro e w' ⟨rfl, rfl⟩)
            | (go_at_call 32; (with_reducible refine (LR2.out).mono ?_); rintro e w' ⟨rfl, rfl⟩)
            | (go_at_call 29; (with_reducible refine (LS.out).mono ?_); rintro e w' ⟨rfl, rfl⟩)
            | (go_at_call 15; (with_reducible refine (ow_steps O2.out).mono ?_); rintro e w' ⟨rfl, rfl⟩))
          go_roundw
          case rel => exact ⟨k + 1, by omega, by go_num, cs, rs, tr, ow_less O2.out (fun _ h => .inl h), by first | exact CH.out | (rw [List.length_set]; exact CH.out), by first | omega | (rw [List.length_append, List.length_singleton]; omega) | (rw [List.length_nil]; omega), L2.out⟩
          case measure => simp [intOf]; omega
        · obtain ⟨kk, rfl⟩ : ∃ kk : Nat, nm = (kk : Int) := ⟨nm.toNat, by omega⟩
          have LS := Lib.hid (ow_since O2.out kk (by omega))
          clear hk0
          go_wp2_with (first
            | (go_at_call 31; (with_reducible refine (LH2.out).mono ?_); rintro e w' ⟨rfl, rfl⟩)
            | (go_at_call 32; (with_reducible refine (LR2.out).mono ?_); rintro e w' ⟨rfl, rfl⟩)
            | (go_at_call 29; (with_reducible refine (LS.out).mono ?_); rintro e w3 ⟨v3, rfl, _, hb3⟩; have H3 := Lib.hid (O2.out.below hb3); have L3 := Lib.hid (L2.out.below hb3); clear hb3)
            | (go_at_call 15; (with_reducible refine (ow_steps H3.out).mono ?_); rintro e w' ⟨rfl, rfl⟩))
          go_roundw
          case rel => exact ⟨k + 1, by omega, by go_num, cs, rs, tr, ow_less H3.out (fun _ h => .inl h), by first | exact CH.out | (rw [List.length_set]; exact CH.out), by first | omega | (rw [List.length_append, List.length_singleton]; omega) | (rw [List.length_nil]; omega), L3.out⟩
          case measure => simp [intOf]; omega
      · have e9 : (wh : Int) % 9 = 7 := by omega
        clear h9
        have LH2 := Lib.hid (ow_has O2.out ps nm hps)
        have LR2 := Lib.hid (ow_room O2.out nm)
        by_cases hk0 : nm < 0 ∨ (tr.length : Int) < nm
        · have LS := Lib.hid (ow_since_bad O2.out nm hk0)
          clear hk0
          go_wp2_with (first
            | (go_at_call 31; (with_reducible refine (LH2.out).mono ?_); rintro e w' ⟨rfl, rfl⟩)
            | (go_at_call 32; (with_reducible refine (LR2.out).mono ?_); rintro e w' ⟨rfl, rfl⟩)
            | (go_at_call 29; (with_reducible refine (LS.out).mono ?_); rintro e w' ⟨rfl, rfl⟩)
            | (go_at_call 15; (with_reducible refine (ow_steps O2.out).mono ?_); rintro e w' ⟨rfl, rfl⟩))
          go_roundw
          case rel => exact ⟨k + 1, by omega, by go_num, cs, rs, tr, ow_less O2.out (fun _ h => .inl h), by first | exact CH.out | (rw [List.length_set]; exact CH.out), by first | omega | (rw [List.length_append, List.length_singleton]; omega) | (rw [List.length_nil]; omega), L2.out⟩
          case measure => simp [intOf]; omega
        · obtain ⟨kk, rfl⟩ : ∃ kk : Nat, nm = (kk : Int) := ⟨nm.toNat, by omega⟩
          have LS := Lib.hid (ow_since O2.out kk (by omega))
          clear hk0
          go_wp2_with (first
            | (go_at_call 31; (with_reducible refine (LH2.out).mono ?_); rintro e w' ⟨rfl, rfl⟩)
            | (go_at_call 32; (with_reducible refine (LR2.out).mono ?_); rintro e w' ⟨rfl, rfl⟩)
            | (go_at_call 29; (with_reducible refine (LS.out).mono ?_); rintro e w3 ⟨v3, rfl, _, hb3⟩; have H3 := Lib.hid (O2.out.below hb3); have L3 := Lib.hid (L2.out.below hb3); clear hb3)
            | (go_at_call 15; (with_reducible refine (ow_steps H3.out).mono ?_); rintro e w' ⟨rfl, rfl⟩))
          go_roundw
          case rel => exact ⟨k + 1, by omega, by go_num, cs, rs, tr, ow_less H3.out (fun _ h => .inl h), by first | exact CH.out | (rw [List.length_set]; exact CH.out), by first | omega | (rw [List.length_append, List.length_singleton]; omega) | (rw [List.length_nil]; omega), L3.out⟩
          case measure => simp [intOf]; omega
    · obtain rfl : k = m := by omega
      have t1 : decide ((k : Int) < (k : Int)) = false := decide_eq_false (by omega)
      have WE := Lib.hid (LH.out.es)
      have hcap : tr.length ≤ cv := own_cap LH.out
      go_wp2_with (first
        | (go_at_call 18; (with_reducible refine (ow_events OH.out).mono ?_); rintro e w5 ⟨v5, rfl, he, hb5⟩; have E5 := Lib.hid he; have O5 := Lib.hid (OH.out.below hb5); have W5 := Lib.hid (WE.out.below hb5); clear he hb5)
        | (go_at_call 17; (with_reducible refine (same_evs E5.out W5.out (by omega)).mono ?_); rintro e w6 ⟨rfl, hb6⟩; have O6 := Lib.hid (O5.out.below hb6); have W6 := Lib.hid (W5.out.below hb6); clear hb6))
      obtain ⟨N, hN⟩ : ∃ N, N = tr.length := ⟨_, rfl⟩
      have HN := Lib.hid hN
      have HO2 : Hid (LogsS w p cs rs tr (.slice qv tr.length cv) w6) := Lib.hid ⟨_, O6.out, W6.out⟩
      clear O6 W6 O5 W5 E5 WE OH LH t1
      rw [← hN] at HO2 htl hcap ⊢
      clear hN
      go_loopw [13, 14, 15] (fun i _ _ wr => ∃ j : Nat, j ≤ N + 1 ∧ i = .int .i64 (j : Int) ∧ LogsS w p cs rs tr (.slice qv N cv) wr) (fun i _ _ _ => N + 1 - (intOf i).toNat)
      case atStart => exact ⟨0, Nat.zero_le _, rfl, HO2.out⟩
      case round =>
        obtain ⟨j, hj, rfl, R, ho, hw⟩ := hrel
        clear HO2
        have OJ := Lib.hid ho
        have WJ := Lib.hid hw
        clear ho hw
        by_cases hjN : j ≤ N
        · have t1 : decide ((j : Int) ≤ (N : Int)) = true := decide_eq_true (by omega)
          have t2 : (j : Int) ≤ (N : Int) := by omega
          have t3 : (j : Int) ≤ (cv : Int) := by omega
          have t4 : (N : Int) ≤ (cv : Int) := by omega
          have LN := Lib.hid (show (tr.drop j).length ≤ 100000000 by rw [List.length_drop]; have := HN.out; omega)
          by_cases hcj : cv = j
          · subst hcj
            have Z1 := Lib.hid (show ∀ W : World, ES W (.slice qv 0 0) (tr.drop cv) from fun W => by have := es_drop0 (w := W) (q := qv) (c := 0) (j := cv) HN.out hcap; rwa [show N - cv = 0 by omega] at this)
            have SI := Lib.hid (ow_since OJ.out cv (by rw [← HN.out]; exact hjN))
            go_wp2_with (first
              | (go_at_call 29; (with_reducible refine (SI.out).mono ?_); rintro e w7 ⟨v7, rfl, he, hb7⟩; have E7 := Lib.hid he; have O7 := Lib.hid (OJ.out.below hb7); have W7 := Lib.hid (WJ.out.below hb7); clear he hb7)
              | (go_at_call 17; (with_reducible refine (same_evs E7.out (Z1.out _) LN.out).mono ?_); rintro e w8 ⟨rfl, hb8⟩))
            go_roundw
            case rel => exact ⟨cv + 1, by omega, by go_num, R, O7.out.below hb8, W7.out.below hb8⟩
            case measure => simp [intOf]; omega
          · skip
            have SI := Lib.hid (ow_since OJ.out j (by rw [← HN.out]; exact hjN))
            go_wp2_with (first
              | (go_at_call 29; (with_reducible refine (SI.out).mono ?_); rintro e w7 ⟨v7, rfl, he, hb7⟩; have E7 := Lib.hid he; have O7 := Lib.hid (OJ.out.below hb7); have W7 := Lib.hid (WJ.out.below hb7); clear he hb7)
              | (go_at_call 17; (with_reducible refine (same_evs E7.out (es_drop W7.out HN.out) LN.out).mono ?_); rintro e w8 ⟨rfl, hb8⟩))
            go_roundw
            case rel => exact ⟨j + 1, by omega, by go_num, R, O7.out.below hb8, W7.out.below hb8⟩
            case measure => simp [intOf]; omega
        · have t1 : decide ((j : Int) ≤ (N : Int)) = false := decide_eq_false (by omega)
          go_wp2_with (go_at_call 11; (with_reducible refine (AW.out _).mono ?_); rintro e w13 ⟨rfl, hb13⟩)
          go_ret
          exact ⟨rfl, OJ.out.bel.trans (hb13.mono OJ.out.bel.size)⟩
end Go.Proofs.Ytonkenicikjefaa
