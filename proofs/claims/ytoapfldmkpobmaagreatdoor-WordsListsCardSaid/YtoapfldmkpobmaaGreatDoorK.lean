/- Layer 1: quotedPrefix and Unquote. -/
import Derived.Test.YtoapfldmkpobmaaGreatDoorJ
namespace Go.Proofs.YtoapfldmkpobmaaGreatDoor
open Go.RowKit
/-- The quoted form, read from the place a on (l: what is left; acc: what was read). -/
def qScan : Nat → List UInt8 → List UInt8 → Nat → Option (List UInt8 × Nat)
  | 0, _, _, _ => none
  | _ + 1, [], _, _ => none
  | f + 1, c :: r, acc, a => if c = 34 then some (acc, a + 1) else
    match unescL (c :: r) with
    | none => none
    | some b => qScan f ((c :: r).drop (escL b).length) (acc ++ [b]) (a + (escL b).length)
def qL (l : List UInt8) : Option (List UInt8 × Nat) := match l with
  | [] => none
  | c :: r => if c = 34 then qScan (r.length + 1) r [] 1 else none
def qT (l : List UInt8) : List UInt8 := match qL l with | some (t, _) => t | none => []
def qN (l : List UInt8) : Nat := match qL l with | some (_, n) => n | none => 0
theorem escL_pos (c : UInt8) : 1 ≤ (escL c).length := by
  rcases escL_cases c with ⟨_, e⟩ | ⟨_, k, _, _, e⟩ | ⟨_, _, e⟩ <;> rw [e] <;> simp
theorem unescL_le {b : UInt8} {l : List UInt8} (h : unescL l = some b) : (escL b).length ≤ l.length := by
  obtain ⟨t, ht⟩ := pre_iff.1 (unescL_inv h)
  have := congrArg List.length ht
  simp at this; omega
theorem qScan_le : ∀ (f : Nat) (l acc : List UInt8) (a : Nat) (t : List UInt8) (n : Nat), qScan f l acc a = some (t, n) → n ≤ a + l.length ∧ a < n := by
  intro f
  induction f with
  | zero => intro l acc a t n h; cases h
  | succ f ih =>
    intro l acc a t n h
    cases l with
    | nil => cases h
    | cons c r =>
      unfold qScan at h
      by_cases hc : c = 34
      · rw [if_pos hc] at h; cases h; simp
      · rw [if_neg hc] at h
        cases hu : unescL (c :: r) with
        | none => rw [hu] at h; cases h
        | some b =>
          rw [hu] at h
          have h1 := ih _ _ _ _ _ h
          have h2 := unescL_le hu
          have h3 := escL_pos b
          rw [List.length_drop] at h1
          omega
theorem qN_le (l : List UInt8) : qN l ≤ l.length := by
  unfold qN qL
  cases l with
  | nil => simp
  | cons c r =>
    by_cases hc : c = 34
    · simp only [if_pos hc]
      cases h : qScan (r.length + 1) r [] 1 with
      | none => simp
      | some p =>
        obtain ⟨t, n⟩ := p
        have := (qScan_le _ _ _ _ _ _ h).1
        simp only [List.length_cons]; omega
    · simp only [if_neg hc]; simp
def QPost (w : World) (l : List UInt8) (e : Ending) (w' : World) : Prop := e = .returned (.tuple #[.string ⟨(qT l).toArray⟩, .int .i64 (qN l)]) ∧ Below w.heap.size w w'
theorem qPost_none {w w' : World} {l : List UInt8} (h : qL l = none) (hb : Below w.heap.size w w') : QPost w l (.returned (.tuple #[.string ⟨#[]⟩, .int .i64 0])) w' := by
  refine ⟨?_, hb⟩
  unfold qT qN; rw [h]; rfl
theorem qPost_some {w w' : World} {l t : List UInt8} {n : Int} {m : Nat} (h : qL l = some (t, m)) (hn : n = m) (hb : Below w.heap.size w w') : QPost w l (.returned (.tuple #[.string ⟨t.toArray⟩, .int .i64 n])) w' := by
  refine ⟨?_, hb⟩
  unfold qT qN; rw [h, hn]
theorem unesc_at (s : ByteArray) (a : Nat) (w : World) (hw : LW w) (hs : s.size ≤ 100000000000) (h : a < s.size) : Calls Tryz.prog 47 #[.string (s.extract a s.size)] w (UnPost w (s.data.toList.drop a)) := by
  have := unesc_any (s.extract a s.size) w hw (by rw [ext_size s a (by omega)]; omega) (by rw [ext_size s a (by omega)]; omega)
  rw [ext_drop] at this
  exact this
theorem qScan_at (s : ByteArray) (a f : Nat) (acc : List UInt8) (h : a < s.size) : qScan (f + 1) (s.data.toList.drop a) acc a = if s[a] = 34 then some (acc, a + 1) else
    match unescL (s.data.toList.drop a) with
    | none => none
    | some b => qScan f (s.data.toList.drop (a + (escL b).length)) (acc ++ [b]) (a + (escL b).length) := by
  have e := data_drop s a h
  conv => lhs; rw [e, qScan]
  rw [← e]
  simp only [List.drop_drop]
theorem qL_first (s : ByteArray) (h : 0 < s.size) (h0 : s[0] = 34) : qL s.data.toList = qScan s.size (s.data.toList.drop 1) [] 1 := by
  have e := data_cons s h
  have hl : s.data.toList.length = s.size := length_data s
  rw [e] at hl
  conv => lhs; rw [e]
  unfold qL
  simp only [if_pos h0]
  rw [show (s.data.toList.drop 1).length + 1 = s.size from hl]
theorem qL_not (s : ByteArray) (h : 0 < s.size) (h0 : s[0] ≠ 34) : qL s.data.toList = none := by
  rw [data_cons s h]; unfold qL; simp only [if_neg h0]

set_option maxHeartbeats 800000 in
theorem qprefix_bad (s : ByteArray) (w : World) (_hs : s.size ≤ 100000000000) (h : s.size = 0 ∨ ∃ h : 0 < s.size, s[0] ≠ 34) : Calls Tryz.prog 28 #[.string s] w (QPost w s.data.toList) := by
  rcases h with h | ⟨h, h0⟩
  · have hN := toList_nil s h
    have hq : qL s.data.toList = none := by rw [eq_nil_zero s h]; rfl
    have HQ := Lib.hid hq
    clear hq h
    go_enter Tryz.func28, Tryz.ntmps28
    go_wp2
    all_goals (go_ret2; exact qPost_none HQ.out (Below.refl _ _))
  · have HQ := Lib.hid (qL_not s h h0)
    have hE := isEmpty_pos s h
    have hN := ne_nil_pos s h
    have f1 : ((s[0].toNat : Int) != 34) = true := by
      rw [bne_iff_ne]; intro e; exact h0 (u8_eq_of_int _ 34 (by decide) e)
    clear h0
    go_enter Tryz.func28, Tryz.ntmps28
    go_wp2
    go_ret2
    exact qPost_none HQ.out (Below.refl _ _)

set_option maxHeartbeats 1600000 in
theorem qprefix_loop (s : ByteArray) (w : World) (hw : LW w) (hs : s.size ≤ 100000000000) (h : 0 < s.size) (h0 : s[0] = 34) : Calls Tryz.prog 28 #[.string s] w (QPost w s.data.toList) := by
  obtain ⟨i0, hi, hz0, hz1, hz2⟩ := info_parts info_u8
  have hq := qL_first s h h0
  have hE := isEmpty_pos s h
  have hN := ne_nil_pos s h
  have f1 : ((s[0].toNat : Int) != 34) = false := by rw [h0]; rfl
  have HQ := Lib.hid hq
  clear h0 hq
  go_enter Tryz.func28, Tryz.ntmps28
  go_wp2_with fail
  clear hE hN f1
  go_loopw [4, 5, 6, 7] (fun v i _ _ wr => ∃ (a f : Nat) (acc : List UInt8), i = .int .i64 a ∧ a ≤ s.size ∧ s.size - a < f ∧ acc.length ≤ a ∧ wr.ownsRow w.heap.size 5 1 v acc.length (acc.map u8v) ∧ Below w.heap.size w wr ∧
      Hid (qL s.data.toList = qScan f (s.data.toList.drop a) acc a)) (fun _ i _ _ _ => s.size - (intOf i).toNat)
  case atStart => exact ⟨1, s.size, [], rfl, by omega, by omega, by simp, World.ownsRow_nil _ _ _ _, Below.refl _ _, HQ⟩
  case round =>
    obtain ⟨a, f, acc, rfl, ha, hf, hac, hown, hbel, hq⟩ := hrel
    obtain ⟨f, rfl⟩ : ∃ f', f = f' + 1 := ⟨f - 1, by omega⟩
    by_cases hlt : a < s.size
    · have hst := qScan_at s a f acc hlt
      by_cases hc : s[a] = 34
      · rw [if_pos hc, ← hq.out] at hst
        have HST := Lib.hid hst
        have f1 : ((s[a].toNat : Int) == 34) = true := by rw [hc]; rfl
        have hcv := conv_own hown
        clear hst hc hw hown HQ hq
        go_wp2_with fail
        go_ret2
        exact qPost_some HST.out (by simp) hbel
      · rw [if_neg hc, ← hq.out] at hst
        have f1 : ((s[a].toNat : Int) == 34) = false := by
          rw [beq_eq_false_iff_ne]; intro e; exact hc (u8_eq_of_int _ 34 (by decide) e)
        have hcall := Lib.hid (unesc_at s a wr (hw.below hbel) hs hlt)
        cases hu : unescL (s.data.toList.drop a) with
        | none =>
          rw [hu] at hst
          have HST := Lib.hid hst
          have hz : unB (s.data.toList.drop a) = 0 ∧ unN (s.data.toList.drop a) = 0 := by unfold unB unN; rw [hu]; exact ⟨rfl, rfl⟩
          unfold UnPost at hcall
          rw [hz.1, hz.2] at hcall
          clear hst hc hw hown HQ hq hu hz
          go_wp2_with (go_at_call 47; refine hcall.out.mono ?_; rintro e w2 ⟨rfl, hb2⟩)
          go_ret2
          exact qPost_none HST.out (hbel.trans (hb2.mono hbel.size))
        | some b =>
          rw [hu] at hst
          dsimp only at hst
          have HST := Lib.hid hst
          have hz : unB (s.data.toList.drop a) = b ∧ unN (s.data.toList.drop a) = (escL b).length := by unfold unB unN; rw [hu]; exact ⟨rfl, rfl⟩
          have hle := unescL_le hu
          rw [List.length_drop, length_data] at hle
          have hpos := escL_pos b
          obtain ⟨n, hn⟩ : ∃ n, n = (escL b).length := ⟨_, rfl⟩
          unfold UnPost at hcall
          rw [hz.1, hz.2, ← hn] at hcall
          rw [← hn] at HST hle hpos
          have f2 : ((n : Int) == 0) = false := beq_eq_false_iff_ne.2 (by omega)
          have hw2 := Lib.hid hw
          have HO := Lib.hid hown
          clear hst hc hw hown HQ hq hu hz hn
          go_wp2_with (first
            | (go_at_call 47; refine hcall.out.mono ?_; rintro e w2 ⟨rfl, hb2⟩; have hown2 := own_below HO.out hb2)
            | (at_builtin; refine wpList_append_own _ rfl _ _ 66 rfl _ 5 i0 (.int .u8 0) 1 1 Tryz.underlying66 hi hz0 hz1 hz2 rfl (by decide) _ _ _ rfl (hown2.alloc _) ⟨w2.heap.size, 0, none⟩ ([b]).length ([b]).length (([b]).map u8v) rfl rfl (new_cells_at _ w2.heap.size (by simp) [b]) (u8v_one _) ?c3 ?c4 ?c5 ?_)
            )
          case c3 => simp [maxLen]; omega
          case c4 => simp; omega
          case c5 => simp; have := hbel.size; have := hb2.size; omega
          intro v3 w3 hown3 hgrow3 _
          have hb4 : Below w.heap.size w w3 := AppPost.below hown2 (hbel.trans (hb2.mono hbel.size)) hgrow3 (by have := hbel.size; have := hb2.size; omega)
          have hown4 : w3.ownsRow w.heap.size 5 1 v3 (acc ++ [b]).length ((acc ++ [b]).map u8v) := own_map hown3 rfl (by simp)
          clear hown2 hb2 hown3 hgrow3
          go_wp2_with fail
          go_roundw
          case rel => exact ⟨a + n, f, acc ++ [b], by go_num, by omega, by omega, by simp; omega, hown4, hb4, HST⟩
          case measure => simp [intOf]; omega
    · obtain rfl : a = s.size := by omega
      have hst := hq.out
      rw [List.drop_of_length_le (by rw [length_data]; exact Nat.le_refl _)] at hst
      have HST := Lib.hid (show qL s.data.toList = none from hst)
      clear hst hw hown HQ hq
      go_wp2_with fail
      go_ret2
      exact qPost_none HST.out hbel

theorem qprefix_any (s : ByteArray) (w : World) (hw : LW w) (hs : s.size ≤ 100000000000) : Calls Tryz.prog 28 #[.string s] w (QPost w s.data.toList) := by
  rcases Nat.eq_zero_or_pos s.size with h | h
  · exact qprefix_bad s w hs (.inl h)
  by_cases h0 : s[0] = 34
  · exact qprefix_loop s w hw hs h h0
  · exact qprefix_bad s w hs (.inr ⟨h, h0⟩)

/-- Unquote: the string, and the error. -/
def unqT (l : List UInt8) : List UInt8 := if qN l = l.length ∧ qN l ≠ 0 then qT l else []
def unqE (l : List UInt8) : Int := if qN l = l.length ∧ qN l ≠ 0 then 0 else 6
theorem ret_sn {a b : List UInt8} {c d : Int} (h : a = b) (h' : c = d) : Ending.returned (.tuple #[.string ⟨a.toArray⟩, .int .i64 c]) = .returned (.tuple #[.string ⟨b.toArray⟩, .int .i64 d]) := by rw [h, h']
theorem unquote_any (s : ByteArray) (w : World) (hw : LW w) (hs : s.size ≤ 100000000000) :
    Calls Tryz.prog 12 #[.string s] w fun e w' => e = .returned (.tuple #[.string ⟨(unqT s.data.toList).toArray⟩, .int .i64 (unqE s.data.toList)]) ∧ Below w.heap.size w w' := by
  have hc := Lib.hid (qprefix_any s w hw hs)
  have hle := qN_le s.data.toList
  rw [length_data] at hle
  obtain ⟨n, hn⟩ : ∃ n, n = qN s.data.toList := ⟨_, rfl⟩
  unfold QPost at hc
  rw [← hn] at hc hle
  have HT : unqT s.data.toList = if n = s.size ∧ n ≠ 0 then qT s.data.toList else [] := by unfold unqT; rw [← hn, length_data]
  have HE : unqE s.data.toList = if n = s.size ∧ n ≠ 0 then 0 else 6 := by unfold unqE; rw [← hn, length_data]
  have HT' := Lib.hid HT
  have HE' := Lib.hid HE
  clear HT HE hn hw
  by_cases h0 : n = 0
  · have f1 : ((n : Int) == 0) = true := beq_iff_eq.2 (by omega)
    have H0 := Lib.hid h0
    clear h0
    go_enter Tryz.func12, Tryz.ntmps12
    go_wp2_with (go_at_call 28; refine hc.out.mono ?_; rintro e w2 ⟨rfl, hb2⟩)
    go_ret2
    exact ⟨ret_sn (by rw [HT'.out, if_neg (fun h => h.2 H0.out)]) (by rw [HE'.out, if_neg (fun h => h.2 H0.out)]), hb2⟩
  · have f1 : ((n : Int) == 0) = false := beq_eq_false_iff_ne.2 (by omega)
    by_cases h1 : n < s.size
    · go_enter Tryz.func12, Tryz.ntmps12
      go_wp2_with (go_at_call 28; refine hc.out.mono ?_; rintro e w2 ⟨rfl, hb2⟩)
      go_ret2
      exact ⟨ret_sn (by rw [HT'.out, if_neg (by omega)]) (by rw [HE'.out, if_neg (by omega)]), hb2⟩
    · go_enter Tryz.func12, Tryz.ntmps12
      go_wp2_with (go_at_call 28; refine hc.out.mono ?_; rintro e w2 ⟨rfl, hb2⟩)
      go_ret2
      exact ⟨ret_sn (by rw [HT'.out, if_pos ⟨by omega, h0⟩]) (by rw [HE'.out, if_pos ⟨by omega, h0⟩]), hb2⟩
end Go.Proofs.YtoapfldmkpobmaaGreatDoor
