/- Parse. -/
import Derived.Test.YtihhgnjkmhdpmaaGreatDoorZe
import Derived.Test.YtihhgnjkmhdpmaaGreatDoorZb
import Derived.Test.YtihhgnjkmhdpmaaGreatDoorWLw
import Derived.WalkMore
namespace Go.Proofs.YtihhgnjkmhdpmaaGreatDoor
open Go.RowKit W
def PsPost (w : World) (s : ByteArray) (e : Ending) (w' : World) : Prop :=
  ∃ v, e = .returned (.tuple #[v, .int .i64 ((parseP s).2.1 : Int), .int .i64 (parseP s).2.2]) ∧ TR w' v ((parseP s).1.flatMap Run.steps) ∧ Below w.heap.size w w'
def runO (b : Run) : Obj := .cells #[.int .i64 b.k, .int .i64 b.a, .int .i64 (b.n : Int)] 56
/-- What Parse's loop keeps: its list, the run before in its own block B. -/
structure PsI (w wr : World) (B : Nat) (v : Value) (b : Run) (l : List Ev) : Prop where
  own : OwT wr 0 v l
  bel : Below w.heap.size w wr
  blk : wr.heap[B]? = some (runO b)
  bge : w.heap.size ≤ B
  vge : ∀ g, v.ownBlock = some g → w.heap.size ≤ g ∧ g ≠ B
section
variable {w w' : World}
theorem psOwnBlock {b0 : Nat} {e : TypeId} {s : Nat} {v : Value} {n : Nat} {xs : List Value} (h : w.ownsRow b0 e s v n xs) (k : ∀ g, v.ownBlock = some g → w'.heap[g]? = w.heap[g]?) : w'.ownsRow b0 e s v n xs := by
  refine ⟨h.1, ?_⟩
  rcases h.2 with h1 | ⟨g, cap, cur, rfl, h1, h2, h3⟩
  · exact .inl h1
  · exact .inr ⟨g, cap, cur, rfl, h1, (k g rfl).trans h2, h3⟩
theorem psShape {b0 : Nat} {e : TypeId} {s : Nat} {v : Value} {n : Nat} {xs : List Value} (h : w.ownsRow b0 e s v n xs) : ∃ q c, v = .slice q n c := by
  rcases h.2 with ⟨rfl, rfl⟩ | ⟨g, cap, cur, rfl, _⟩
  · exact ⟨_, _, rfl⟩
  · exact ⟨_, _, rfl⟩
end
section
variable {w wr w2 : World} {B : Nat} {v v2 : Value} {b : Run} {l : List Ev}
theorem PsI.blt (h : PsI w wr B v b l) : B < wr.heap.size := by
  have := h.blk
  exact (Array.getElem?_eq_some_iff.1 this).1
theorem PsI.below (h : PsI w wr B v b l) (hb : Below wr.heap.size wr w2) : PsI w w2 B v b l where
  own := psOwnBlock h.own fun g hg => hb.block g (World.ownsRow.lt h.own g hg).2
  bel := h.bel.trans (hb.mono h.bel.size)
  blk := (hb.block B h.blt).trans h.blk
  bge := h.bge
  vge := h.vge
theorem PsI.cells (h : PsI w wr B v b l) : wr.cell? ⟨B, 0, none⟩ = some (.int .i64 b.k) ∧ wr.cell? ⟨B, 1, none⟩ = some (.int .i64 b.a) ∧ wr.cell? ⟨B, 2, none⟩ = some (.int .i64 (b.n : Int)) :=
  ⟨(cell_blk h.blk 0).trans rfl, (cell_blk h.blk 1).trans rfl, (cell_blk h.blk 2).trans rfl⟩
end
section
variable {w wr w2 : World} {B : Nat} {v v2 : Value} {b : Run} {l l2 : List Ev}
/-- The steps of a run are put at the list's end. -/
theorem PsI.steps (h : PsI w wr B v b l) (ho : OwT w2 0 v2 l2) (hs : StR wr v v2 w2) : PsI w w2 B v2 b l2 where
  own := ho
  bel := h.bel.trans ⟨hs.1.os, hs.1.tape, hs.1.output, hs.1.size, fun k hk => hs.1.block k (Nat.lt_of_lt_of_le hk h.bel.size) (fun e => by have := (h.vge k e.symm).1; omega)⟩
  blk := (hs.1.block B h.blt (fun e => (h.vge B e.symm).2 rfl)).trans h.blk
  bge := h.bge
  vge := fun g hg => by
    have hb := h.blt
    rcases hs.2 with h1 | ⟨g2, h1, h2⟩
    · exact h.vge g (h1 ▸ hg)
    · rw [h1] at hg; cases hg
      exact ⟨Nat.le_trans h.bel.size h2, by omega⟩
/-- A run becomes the one before. -/
theorem PsI.put (h : PsI w wr B v b l) (r : Run) : PsI w (((wr.setCell ⟨B, 0, none⟩ (.int .i64 r.k)).setCell ⟨B, 1, none⟩ (.int .i64 r.a)).setCell ⟨B, 2, none⟩ (.int .i64 (r.n : Int))) B v r l where
  own := psOwnBlock h.own fun g hg => by
    have hne : g ≠ B := (h.vge g hg).2
    exact (Below.heap_setCell _ _ _ g hne).trans ((Below.heap_setCell _ _ _ g hne).trans (Below.heap_setCell _ _ _ g hne))
  bel := ((h.bel.setCell h.bge _).setCell h.bge _).setCell h.bge _
  blk := heap_setCell_same _ B 2 _ _ (.int .i64 (r.n : Int)) (heap_setCell_same _ B 1 _ _ (.int .i64 r.a) (heap_setCell_same _ B 0 _ _ (.int .i64 r.k) h.blk))
  bge := h.bge
  vge := h.vge
end
theorem psAlloc (w : World) (o : Obj) : Below w.heap.size w (w.alloc o) := (Below.refl _ w).alloc (Nat.le_refl _) o
def EndsOk (l : List UInt8) : Prop := l = [] ∨ l.getD (l.length - 1) 0 = 10
theorem EndsOk.mem {l : List UInt8} (h : EndsOk l) (hn : ¬ l = []) : (10 : UInt8) ∈ l := by
  rcases h with h | h
  · exact absurd h hn
  · have hp : 0 < l.length := List.length_pos_iff.2 hn
    rw [List.getD_eq_getElem?_getD, List.getElem?_eq_getElem (by omega)] at h
    rw [← h]; exact List.getElem_mem _
theorem EndsOk.drop {l : List UInt8} (h : EndsOk l) (i : Nat) : EndsOk (l.drop i) := by
  rcases h with h | h
  · left; rw [h]; simp
  · by_cases hi : l.length ≤ i
    · left; exact List.drop_eq_nil_of_le hi
    · right
      rw [List.length_drop, List.getD_eq_getElem?_getD, List.getElem?_drop, show i + (l.length - i - 1) = l.length - 1 by omega, ← List.getD_eq_getElem?_getD]
      exact h
theorem lines_facts {s : ByteArray} (h : linE s = 0) : s.size ≤ 1048576 ∧ EndsOk s.data.toList ∧ (cutF [] s.data.toList).length ≤ 5000 := by
  rw [linE_eq] at h
  by_cases h1 : 1048576 < s.size
  · rw [if_pos h1] at h; cases h
  rw [if_neg h1] at h
  by_cases h2 : s.size = 0
  · have e : s.data.toList = [] := eq_nil_zero s h2
    refine ⟨by omega, .inl e, ?_⟩
    rw [e]; simp [cutF]
  rw [if_neg h2] at h
  by_cases h3 : s.data.toList.getD (s.size - 1) 0 ≠ 10
  · rw [if_pos h3] at h; cases h
  rw [if_neg h3] at h
  by_cases h4 : 5000 < (cutF [] s.data.toList).length
  · rw [if_pos h4] at h; cases h
  exact ⟨by omega, .inr (by rw [length_data]; simpa using h3), by omega⟩
structure PsR (w wr : World) (B : Nat) (v : Value) (s : ByteArray) (i : Nat) (b : Run) (rs : List Run) (R : ByteArray) : Prop where
  inv : PsI w wr B v b (rs.flatMap Run.steps)
  par : parL i (sumN rs) b rs (cutF [] R.data.toList) = parseP s
  fin : EndsOk R.data.toList
  cnt : i + (cutF [] R.data.toList).length ≤ 5000
  sum : sumN rs ≤ 8388608
  bnd : (-1000000000 ≤ b.a ∧ b.a ≤ 1000000000) ∧ b.n ≤ 1000000000
  good : ∀ r ∈ rs, r.good
  siz : R.size ≤ s.size
set_option maxRecDepth 100000 in
set_option maxHeartbeats 4000000 in
theorem parse_zero (s : ByteArray) (w : World) (hw : LW w) (hs : s.size ≤ 4000000000) (h0 : linE s = 0) : Calls Tryz.prog 10 #[.string s] w (PsPost w s) := by
  have LN := Lib.hid (lines_any s w hw hs)
  unfold LnPost at LN
  rw [h0] at LN
  have HW := Lib.hid hw
  have H0 := Lib.hid h0
  clear h0 hw
  go_enter Tryz.func10, Tryz.ntmps10
  go_wp2
  go_step3
  go_wp2_with (first
    | (go_at_call 27; (with_reducible refine (LN.out).mono ?_); rintro e w1 ⟨v1, rfl, _, hb1⟩; have HB1 := Lib.hid hb1; clear hb1))
  try go_step3
  try go_wp2
  have HP : Hid (PsR w (w1.alloc (runO ⟨0, 0, 0⟩)) w1.heap.size (.slice none 0 0) s 0 ⟨0, 0, 0⟩ [] s) := by
    obtain ⟨h1, h2, h3⟩ := lines_facts H0.out
    refine Lib.hid ⟨⟨?_, HB1.out.alloc HB1.out.size _, heap_new _ _, HB1.out.size, fun g hg => by cases hg⟩, ?_, h2, by omega, by simp [sumN], by simp, fun r hr => (by cases hr), Nat.le_refl _⟩
    · exact World.ownsRow_nil _ _ _ _
    · unfold parseP; rw [if_pos H0.out]; rfl
  clear LN HB1
  go_loopw [2, 3, 4, 6] (fun v ln e4 r6 wr => ∃ (i : Nat) (b : Run) (rs : List Run) (R : ByteArray), ln = .int .i64 (i : Int) ∧ e4 = .int .i64 0 ∧ r6 = .string R ∧ Hid (PsR w wr w1.heap.size v s i b rs R)) (fun _ _ _ r6 _ => match r6 with | .string R => R.size | _ => 0)
  case atStart => exact ⟨0, ⟨0, 0, 0⟩, [], s, rfl, rfl, rfl, HP⟩
  case round =>
    obtain ⟨i, b, rs, R, rfl, rfl, rfl, hp⟩ := hrel
    obtain ⟨inv, par, fin, cnt, sum, bnd, good, siz⟩ := hp.out
    clear HP hp
    obtain ⟨M, hM⟩ : ∃ M, M = sumN rs := ⟨_, rfl⟩
    obtain ⟨q, cc, hv⟩ := psShape inv.own
    rw [show (rs.flatMap Run.steps).length = M from hM.symm] at hv
    subst hv
    rw [← hM] at par sum
    by_cases hz : R.data.toList = []
    · have t0 : (R.toList == []) = true := beq_mk _ _ hz
      rw [hz, cutF, parL] at par
      have PAR := Lib.hid par
      have INV := Lib.hid inv
      have GOOD := Lib.hid good
      clear par inv good hz fin cnt
      go_wp2
      go_ret3
      refine ⟨_, by rw [← PAR.out]; rfl, ?_, INV.out.bel⟩
      rw [← PAR.out]
      exact INV.out.own.tr fun x hx => by
        obtain ⟨r, hr, hxr⟩ := List.mem_flatMap.1 hx
        obtain ⟨e1, e2, e3⟩ := evE_zero (steps_good (GOOD.out r hr) x hxr)
        unfold okE
        omega
    · have t0 : (R.toList == []) = false := bne_mk _ _ hz
      obtain ⟨i0, hi0, hcut, hcf⟩ := cut_pos (fin.mem hz)
      obtain ⟨x, hx⟩ : ∃ x : ByteArray, x = ⟨(R.data.toList.take i0).toArray⟩ := ⟨_, rfl⟩
      obtain ⟨R', hR'⟩ : ∃ R' : ByteArray, R' = ⟨(R.data.toList.drop (i0 + 1)).toArray⟩ := ⟨_, rfl⟩
      have hxl : x.data.toList = R.data.toList.take i0 := by rw [hx]
      have hRl : R'.data.toList = R.data.toList.drop (i0 + 1) := by rw [hR']
      have hxs : x.size ≤ R.size := by
        have h1 : x.size = (R.data.toList.take i0).length := by rw [hx]; exact size_mk _
        have h2 := Nat.min_le_right i0 R.data.toList.length
        rw [List.length_take] at h1
        rw [length_data] at h1 h2; omega
      have hRs : R'.size < R.size := by
        have h1 : R'.size = (R.data.toList.drop (i0 + 1)).length := by rw [hR']; exact size_mk _
        rw [List.length_drop] at h1
        rw [length_data] at h1 hi0; omega
      rw [hcf, ← hxl, ← hRl, parL] at par
      rw [hcf, ← hRl, List.length_cons] at cnt
      have fin2 : EndsOk R'.data.toList := by rw [hRl]; exact fin.drop _
      obtain ⟨ER, rr, hlr⟩ : ∃ E r, lineR x.data.toList = (E, r) := ⟨_, _, rfl⟩
      have hgd : ER = 0 → rr.good := fun h => by have := (lineR_good (t := x.data.toList) (by rw [hlr]; exact h)).1; rw [hlr] at this; exact this
      rw [hlr] at par
      dsimp only at par
      obtain ⟨mm, hmm⟩ := (HW.out.below inv.bel).ml
      have C := Lib.hid (Tryz.strings_Cut R ⟨#[10]⟩ mm wr (by omega) hmm)
      rw [show (⟨#[10]⟩ : ByteArray).data.toList = [10] from rfl, hcut] at C
      rw [show (⟨(R.data.toList.take i0, R.data.toList.drop (i0 + 1), true).1.toArray⟩ : ByteArray) = x from hx.symm, show (⟨(R.data.toList.take i0, R.data.toList.drop (i0 + 1), true).2.1.toArray⟩ : ByteArray) = R' from hR'.symm] at C
      have PR := Lib.hid (fun W (hb : Below wr.heap.size wr W) => parseRun_any x W ((HW.out.below inv.bel).below hb) (by omega))
      unfold LrPost runV at PR
      rw [hlr] at PR
      dsimp only at PR
      have INV := Lib.hid inv
      have PAR := Lib.hid par
      have FIN := Lib.hid fin2
      have GOOD := Lib.hid good
      have GD := Lib.hid hgd
      have HMM := Lib.hid hM
      have SUM := Lib.hid sum
      have BND := Lib.hid bnd
      have HRS := Lib.hid (And.intro hRs siz)
      have CNT := Lib.hid cnt
      have hi5 : i + 1 ≤ 5000 := by omega
      clear inv par fin fin2 good hgd hM sum bnd hmm hcut hcf hx hR' hxl hRl hxs hRs hlr hi0 hz siz cnt
      by_cases he : ER = 0
      case neg =>
        have t1 : (ER != 0) = true := by rw [bne_iff_ne]; exact he
        have P2 := Lib.hid (show (([] : List Run), i + 1, ER) = parseP s by rw [← PAR.out, if_pos he])
        clear PAR he
        go_wp2_with (first
          | (go_at_call 28; (with_reducible refine (C.out).mono ?_); rintro e w1 ⟨rfl, d, rfl⟩)
          | (go_at_call 29; (with_reducible refine (PR.out _ (below_drewN _ _)).mono ?_); rintro e w3 ⟨rfl, hb3⟩; have B3 := Lib.hid ((below_drewN wr d).trans (hb3.mono (below_drewN wr d).size)); clear hb3))
        go_ret3
        refine ⟨_, by rw [← P2.out]; rfl, by rw [← P2.out]; exact TR.nil _, (INV.out.bel.trans (B3.out.mono INV.out.bel.size)).trans ((psAlloc w3 _).mono (Nat.le_trans INV.out.bel.size B3.out.size))⟩
      case pos =>
        subst he
        have hg := GD.out rfl
        have hgk := hg
        obtain ⟨_, hga, hgn, hgs⟩ := hgk
        have HG := Lib.hid hg
        obtain ⟨MN, hMN⟩ : ∃ z, z = M + rr.n := ⟨_, rfl⟩
        have hM8 := SUM.out
        have w1' : IntKind.i64.wrap ((M : Int) + (rr.n : Int)) = (MN : Int) := by rw [IntKind.wrap_i64]; omega
        have HN := Lib.hid hMN
        clear hg hMN
        by_cases hb1 : 8388608 < MN
        · have t2 : decide ((8388608 : Int) < (MN : Int)) = true := decide_eq_true (by omega)
          have t2n : decide (8388608 < MN) = true := decide_eq_true hb1
          have P2 := Lib.hid (show (([] : List Run), i + 1, (3 : Int)) = parseP s by rw [← PAR.out, if_neg (fun h => h rfl), if_pos (by rw [← HN.out]; exact hb1)])
          clear PAR hb1 hga hgn hgs hM8
          go_wp2_with (first
            | (go_at_call 28; (with_reducible refine (C.out).mono ?_); rintro e w1 ⟨rfl, d, rfl⟩)
            | (go_at_call 29; (with_reducible refine (PR.out _ (below_drewN _ _)).mono ?_); rintro e w3 ⟨rfl, hb3⟩; have B3 := Lib.hid ((below_drewN wr d).trans (hb3.mono (below_drewN wr d).size)); clear hb3))
          go_ret3
          refine ⟨_, by rw [← P2.out]; rfl, by rw [← P2.out]; exact TR.nil _, (INV.out.bel.trans (B3.out.mono INV.out.bel.size)).trans ((psAlloc w3 _).mono (Nat.le_trans INV.out.bel.size B3.out.size))⟩
        · have t2 : decide ((8388608 : Int) < (MN : Int)) = false := decide_eq_false (by omega)
          have t2n : decide (8388608 < MN) = false := decide_eq_false hb1
          have HB8 := Lib.hid hb1
          have JN := Lib.hid (fun W => joins_any rr b W BND.out.1 BND.out.2)
          have PAR2 := Lib.hid (show (if rr.k = b.k ∧ rr.a = b.a + b.n then (([] : List Run), i + 1, (6 : Int)) else parL (i + 1) (M + rr.n) rr (rs ++ [rr]) (cutF [] R'.data.toList)) = parseP s by
            have this := PAR.out
            rw [if_neg (fun h => h rfl), if_neg (by rw [← HN.out]; exact hb1)] at this
            exact this)
          unfold runV at JN
          clear PAR hb1 hga hgn hgs hM8
          obtain ⟨jb, hjb⟩ : ∃ z, z = joinB rr b := ⟨_, rfl⟩
          simp only [← hjb] at JN
          have HJB := Lib.hid hjb
          clear hjb
          cases jb
          case true =>
            have P2 := Lib.hid (show (([] : List Run), i + 1, (6 : Int)) = parseP s by rw [← PAR2.out, if_pos (by have := HJB.out; unfold joinB at this; simpa using this.symm)])
            go_wp2_with (first
              | (go_at_call 28; (with_reducible refine (C.out).mono ?_); rintro e w1 ⟨rfl, d, rfl⟩)
              | (go_at_call 29; (with_reducible refine (PR.out _ (below_drewN _ _)).mono ?_); rintro e w3 ⟨rfl, hb3⟩; have B3 := Lib.hid ((below_drewN wr d).trans (hb3.mono (below_drewN wr d).size)); have I4 := Lib.hid ((INV.out.below B3.out).below (psAlloc w3 (runO rr))); obtain ⟨c0, c1, c2⟩ := I4.out.cells; unfold runO at c0 c1 c2; clear hb3)
              | (go_at_call 30; (with_reducible refine (JN.out _).mono ?_); rintro e w5 ⟨rfl, hb5⟩; have I5 := Lib.hid (I4.out.below hb5); clear hb5))
            go_ret3
            exact ⟨_, by rw [← P2.out]; rfl, by rw [← P2.out]; exact TR.nil _, I5.out.bel⟩
          case false =>
            have P2 := Lib.hid (show parL (i + 1) (M + rr.n) rr (rs ++ [rr]) (cutF [] R'.data.toList) = parseP s by
              have this := PAR2.out
              rw [if_neg (by have := HJB.out; unfold joinB at this; intro h; rw [h.1, h.2] at this; simp at this)] at this
              exact this)
            have hMl : ((rs.flatMap Run.steps).length = M) := HMM.out.symm
            have HL := Lib.hid (show (rs.flatMap Run.steps).length + rr.n ≤ 8388608 by rw [hMl]; have := HB8.out; have := HN.out; omega)
            have ST := Lib.hid (fun v l w (hv : OwT w 0 v l) (hl : l.length + rr.n ≤ 8388608) => steps_any rr HG.out v l w hv hl)
            unfold runV at ST
            clear hMl PAR2 HJB
            go_wp2_with (first
              | (go_at_call 28; (with_reducible refine (C.out).mono ?_); rintro e w1 ⟨rfl, d, rfl⟩)
              | (go_at_call 29; (with_reducible refine (PR.out _ (below_drewN _ _)).mono ?_); rintro e w3 ⟨rfl, hb3⟩; have B3 := Lib.hid ((below_drewN wr d).trans (hb3.mono (below_drewN wr d).size)); have I4 := Lib.hid ((INV.out.below B3.out).below (psAlloc w3 (runO rr))); obtain ⟨c0, c1, c2⟩ := I4.out.cells; unfold runO at c0 c1 c2; clear hb3)
              | (go_at_call 30; (with_reducible refine (JN.out _).mono ?_); rintro e w5 ⟨rfl, hb5⟩; have I5 := Lib.hid (I4.out.below hb5); have T5 := Lib.hid ((hb5.block w3.heap.size (by simp)).trans (heap_new w3 (runO rr))); have a0 := (cell_blk T5.out 0).trans rfl; have a1 := (cell_blk T5.out 1).trans rfl; have a2 := (cell_blk T5.out 2).trans rfl; have N5 := Lib.hid hb5.size; clear hb5)
              | (go_at_call 31; (with_reducible refine (ST.out _ _ _ I5.out.own HL.out).mono ?_); rintro e w6 ⟨v6, rfl, ho, hs6⟩; have I6 := Lib.hid (I5.out.steps ho hs6); have T6 := Lib.hid ((hs6.1.block w3.heap.size (by have := N5.out; simp at this; omega) (fun e => by have h1 := (World.ownsRow.lt INV.out.own _ e.symm).2; have h2 := B3.out.size; omega)).trans T5.out); have d0 := (cell_blk T6.out 0).trans rfl; have d1 := (cell_blk T6.out 1).trans rfl; have d2 := (cell_blk T6.out 2).trans rfl; have f0 := frozen_blk I6.out.blk 0; have f1 := frozen_blk I6.out.blk 1; have f2 := frozen_blk I6.out.blk 2; obtain ⟨g0, g1, g2⟩ := I6.out.cells; clear ho hs6))
            go_roundw
            case rel =>
              refine ⟨i + 1, rr, rs ++ [rr], R', by go_num, rfl, rfl, Lib.hid ⟨?_, ?_, FIN.out, by have := CNT.out; omega, ?_, ?_, ?_, by have := HRS.out; omega⟩⟩
              · have := I6.out.put rr
                rw [List.flatMap_append, List.flatMap_cons, List.flatMap_nil, List.append_nil]
                exact this
              · rw [sumN_snoc, ← HMM.out]; exact P2.out
              · rw [sumN_snoc, ← HMM.out]; have := HB8.out; have := HN.out; omega
              · obtain ⟨_, h1, h2, h3⟩ := HG.out
                omega
              · intro r hr
                rcases List.mem_append.1 hr with h1 | h1
                · exact GOOD.out r h1
                · rw [List.mem_singleton.1 h1]; exact HG.out
            case measure => exact HRS.out.1
end Go.Proofs.YtihhgnjkmhdpmaaGreatDoor
