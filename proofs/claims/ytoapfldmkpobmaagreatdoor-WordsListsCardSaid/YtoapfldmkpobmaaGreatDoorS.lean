/- Layer 1: Split. -/
import Derived.Test.YtoapfldmkpobmaaGreatDoorR
import Derived.Maps.AppendAt
namespace Go.Proofs.YtoapfldmkpobmaaGreatDoor
open Go.RowKit Go.Shelf
attribute [local go_sem] Oper.semAt_some
theorem wpListIn_append_own_at {F : Fence} {n : Nat} {P : Program} (w : World) {ops : Array Oper} {rest : List Oper} {o : Oper} {a : Act} {Q : Exit → Act → World → Prop}
    (hg : o.guard = none) (s x : Operand) (t : TypeId) (hop : o.op = Op.call { callee := Callee.builtin Builtin.append, args := #[s, x], argTypes := #[t, t] })
    (base : Nat) (e : TypeId) (i : TypeInfo) (z : Value) (size bytes : Nat) (h1 : P.underlying t = some (.slice e)) (h2 : P.info? e = some i) (h3 : i.zero = some z) (h4 : i.size = size) (h5 : i.bytes = bytes) (h6 : z.cells.size = size) (h7 : 0 < size)
    (v : Value) (k : Nat) (xs : List Value) (hs : a.eval s = v) (hown : w.ownsRow base e size v k xs) (ad : Addr) (m c : Nat) (news : List Value) (hx : a.eval x = .slice (some ad) m c) (hn : news.length = m * size)
    (hc : ∀ j u, news[j]? = some u → w.cell? (ad.add j) = some u) (h1c : ∀ u ∈ news, u.oneCell' = true) (b1 : k + m ≤ maxLen) (b2 : (k + m) * bytes ≤ 140737488355328) (b3 : base ≤ w.heap.size)
    (hK : ∀ v' w', w'.ownsRow base e size v' (k + m) (xs ++ news) → w.grownBy w' v.ownBlock → (v' = .slice none 0 0 ↔ v = .slice none 0 0 ∧ m = 0) → (v'.ownBlock = v.ownBlock ∨ v'.ownBlock = some w.heap.size) → wpListIn F n P ops Q rest (a.put o.dst v') w') :
    wpListIn F n P ops Q (o :: rest) a w := by
  refine wpListIn_plain hg fun K hK' => ?_
  obtain ⟨v', w', hrun, r1, r2, r3, r4⟩ := run_append_own_at (P := P) w base t o.type e i z size bytes h1 h2 h3 h4 h5 h6 h7 v k xs hown ad m c news hn hc h1c b1 b2 b3
  unfold Oper.wpIn
  refine ⟨?_, ?_⟩
  · simp [Oper.about, hop, resolve, Target.leads, Sem.run_pure]
  · rw [Oper.semAt_plain F _ _ (by rw [hop]; intro c hc'; cases hc')]
    simp [execOp, hop, resolve, invoke, builtin, hs, hx, hrun, Result.andThen]
    exact hK' _ _ (hK v' w' r1 r2 r3 r4)
/-- The range over a function that a code holds: what is assigned, and the body. -/
def rangeIn : Code → Option (Code × Code)
  | .seq a b => match rangeIn a with
    | some r => some r
    | none => rangeIn b
  | .block _ c => rangeIn c
  | .rangeFunc _ _ a b => some (a, b)
  | _ => none
def bodyOf : Option Code → Code
  | some c => match rangeIn c with
    | some (_, b) => b
    | none => .skip
  | none => .skip
noncomputable def spBody : Code := bodyOf Tryz.f10.body
def spAct (s : ByteArray) (t1 : Value) (R2 R3 L G X : Nat) (ok : Bool) (g : Nat → Value) : Act :=
  { tmps := #[.string s, t1, .pointer (some ⟨R2, 0, none⟩), .pointer (some ⟨R3, 0, none⟩), .pointer (some ⟨L, 0, none⟩), .pointer (some ⟨G, 0, none⟩), .pointer (some ⟨X, 0, none⟩), .bool ok, g 8, g 9, g 10, g 11, g 12, g 13, g 14, g 15, g 16, g 17, g 18, g 19, g 20, g 21, g 22, g 23, g 24, g 25, g 26, g 27, g 28, g 29, g 30, g 31, g 32, g 33, g 34], defers := [] }
theorem sp_bad {l n : Nat} {Q : Exit → Act → World → Prop} {s : ByteArray} {t1 : Value} {R2 R3 L G X : Nat} {g : Nat → Value} {W : World}
    {v2 v3 : Value} (hne : R2 ≠ R3) (c2 : W.cell? ⟨R2, 0, none⟩ = some v2) (f2 : W.frozen? ⟨R2, 0, none⟩ = false) (c3 : W.cell? ⟨R3, 0, none⟩ = some v3) (f3 : W.frozen? ⟨R3, 0, none⟩ = false)
    (hQ : ∀ a, Q .ret a ((W.setCell ⟨R2, 0, none⟩ (.slice none 0 0)).setCell ⟨R3, 0, none⟩ (.int .i64 6))) :
    spBody.wpIn (Fence.wide.inRound l) n Tryz.prog Q (spAct s t1 R2 R3 L G X false g) W := by
  simp only [spBody, bodyOf, Tryz.f10, rangeIn, spAct]
  have hne' : ¬ R3 = R2 := fun e => hne e.symm
  gi_wp2
  exact hQ _
theorem info_F : (Tryz.prog.info? 39).map (fun i => (i.zero, i.size, i.bytes)) = some (some (.agg #[.string ⟨#[]⟩, .bool false]), 2, 24) := by kernel_rfl
theorem two_one (x y : Value) (hx : x.oneCell' = true) (hy : y.oneCell' = true) : ∀ u ∈ [x, y], u.oneCell' = true := by
  intro u hu; simp at hu; rcases hu with rfl | rfl <;> assumption
theorem owns_slice {w : World} {base : Nat} {e : TypeId} {size : Nat} {v : Value} {n : Nat} {xs : List Value} (h : w.ownsRow base e size v n xs) : ∃ p a b, v = .slice p a b := by
  rcases h.2 with ⟨rfl, _⟩ | ⟨g, cap, cur, rfl, _⟩
  · exact ⟨_, _, _, rfl⟩
  · exact ⟨_, _, _, rfl⟩
theorem cell_two_new (w : World) (x y : Value) (t : TypeId) : ∀ j u, [x, y][j]? = some u → (w.alloc (.cells #[x, y] t)).cell? ((⟨w.heap.size, 0, none⟩ : Addr).add j) = some u := by
  intro j u hj
  match j, hj with
  | 0, hj =>
    simp at hj
    subst hj
    simp [Addr.add]
  | 1, hj =>
    simp at hj
    subst hj
    simp [Addr.add]
set_option maxRecDepth 100000 in
theorem sp_ok {l n B : Nat} {Q : Exit → Act → World → Prop} {s T : ByteArray} {q lg : Bool} {t1 : Value} {R2 R3 L G X : Nat} {g : Nat → Value} {W : World} {v : Value} {k : Nat} {xs : List Value}
    (cG : W.cell? ⟨G, 0, none⟩ = some (.bool lg)) (fG : W.frozen? ⟨G, 0, none⟩ = false) (cX : W.cell? ⟨X, 0, none⟩ = some (.string T))
    (cL : ∀ b, (W.setCell ⟨G, 0, none⟩ (.bool b)).cell? ⟨L, 0, none⟩ = some v) (cX0 : ∀ b, (W.setCell ⟨G, 0, none⟩ (.bool b)).cell? ⟨X, 0, none⟩ = some (.string T)) (cX1 : ∀ b, (W.setCell ⟨G, 0, none⟩ (.bool b)).cell? ⟨X, 1, none⟩ = some (.bool q))
    (hown : ∀ b, (W.setCell ⟨G, 0, none⟩ (.bool b)).ownsRow B 39 2 v k xs) (hk : k ≤ 100000) (hB : B ≤ W.heap.size)
    (fL : ∀ b w', ((W.setCell ⟨G, 0, none⟩ (.bool b)).alloc (.cells #[.string T, .bool q] 39)).grownBy w' v.ownBlock → (∃ u, w'.cell? ⟨L, 0, none⟩ = some u) ∧ w'.frozen? ⟨L, 0, none⟩ = false)
    (hQ : ∀ a v' w', w'.ownsRow B 39 2 v' (k + 1) (xs ++ [.string T, .bool q]) → ((W.setCell ⟨G, 0, none⟩ (.bool (lg || decide (2000 < T.size)))).alloc (.cells #[.string T, .bool q] 39)).grownBy w' v.ownBlock →
      (v'.ownBlock = v.ownBlock ∨ v'.ownBlock = some (W.heap.size + 1)) → v' ≠ .slice none 0 0 → Q .normal a (w'.setCell ⟨L, 0, none⟩ v')) :
    spBody.wpIn (Fence.wide.inRound l) n Tryz.prog Q (spAct s t1 R2 R3 L G X true g) W := by
  obtain ⟨i0, hi, hz0, hz1, hz2⟩ := info_parts info_F
  have HQ := Lib.hid hQ
  have HF := Lib.hid fL
  clear hQ fL
  simp only [spBody, bodyOf, Tryz.f10, rangeIn, spAct]
  cases lg
  · by_cases h : 2000 < T.size
    · have hb : decide ((2000 : Int) < (T.size : Int)) = true := decide_eq_true (by omega)
      have hb2 : (false || decide (2000 < T.size)) = true := by simp [h]
      rw [hb2] at HQ
      gi_wp2_with (gi_at_builtin; refine wpListIn_append_own_at _ rfl _ _ 31 rfl B 39 i0 (.agg #[.string ⟨#[]⟩, .bool false]) 2 24 Tryz.underlying31 hi hz0 hz1 hz2 rfl (by decide) v k xs rfl ?c1 ⟨W.heap.size, 0, none⟩ 1 1 [.string T, .bool q] rfl rfl ?c2 (two_one _ _ rfl rfl) ?c3 ?c4 ?c5 ?_)
      case c1 => exact (hown true).alloc _
      case c2 => have := cell_two_new (W.setCell ⟨G, 0, none⟩ (.bool true)) (.string T) (.bool q) 39; rwa [World.size_setCell] at this
      case c3 => simp [maxLen]; omega
      case c4 => omega
      case c5 => simp; omega
      intro v' w' hown' hgr hnil hat
      obtain ⟨⟨u0, hcL⟩, hfL⟩ := HF.out _ w' hgr
      have HN := Lib.hid (HQ.out · v' w' hown' hgr hat hnil)
      obtain ⟨p1, n1, m1, rfl⟩ := owns_slice hown'
      clear hown' hgr hat hnil
      gi_wp2
      exact HN.out _
    · have hb : decide ((2000 : Int) < (T.size : Int)) = false := decide_eq_false (by omega)
      have hb2 : (false || decide (2000 < T.size)) = false := by simp [h]
      rw [hb2] at HQ
      gi_wp2_with (gi_at_builtin; refine wpListIn_append_own_at _ rfl _ _ 31 rfl B 39 i0 (.agg #[.string ⟨#[]⟩, .bool false]) 2 24 Tryz.underlying31 hi hz0 hz1 hz2 rfl (by decide) v k xs rfl ?c1 ⟨W.heap.size, 0, none⟩ 1 1 [.string T, .bool q] rfl rfl ?c2 (two_one _ _ rfl rfl) ?c3 ?c4 ?c5 ?_)
      case c1 => exact (hown false).alloc _
      case c2 => have := cell_two_new (W.setCell ⟨G, 0, none⟩ (.bool false)) (.string T) (.bool q) 39; rwa [World.size_setCell] at this
      case c3 => simp [maxLen]; omega
      case c4 => omega
      case c5 => simp; omega
      intro v' w' hown' hgr hnil hat
      obtain ⟨⟨u0, hcL⟩, hfL⟩ := HF.out _ w' hgr
      have HN := Lib.hid (HQ.out · v' w' hown' hgr hat hnil)
      obtain ⟨p1, n1, m1, rfl⟩ := owns_slice hown'
      clear hown' hgr hat hnil
      gi_wp2
      exact HN.out _
  · rw [Bool.true_or] at HQ
    gi_wp2_with (gi_at_builtin; refine wpListIn_append_own_at _ rfl _ _ 31 rfl B 39 i0 (.agg #[.string ⟨#[]⟩, .bool false]) 2 24 Tryz.underlying31 hi hz0 hz1 hz2 rfl (by decide) v k xs rfl ?c1 ⟨W.heap.size, 0, none⟩ 1 1 [.string T, .bool q] rfl rfl ?c2 (two_one _ _ rfl rfl) ?c3 ?c4 ?c5 ?_)
    case c1 => exact (hown true).alloc _
    case c2 => have := cell_two_new (W.setCell ⟨G, 0, none⟩ (.bool true)) (.string T) (.bool q) 39; rwa [World.size_setCell] at this
    case c3 => simp [maxLen]; omega
    case c4 => omega
    case c5 => simp; omega
    intro v' w' hown' hgr hnil hat
    obtain ⟨⟨u0, hcL⟩, hfL⟩ := HF.out _ w' hgr
    have HN := Lib.hid (HQ.out · v' w' hown' hgr hat hnil)
    obtain ⟨p1, n1, m1, rfl⟩ := owns_slice hown'
    clear hown' hgr hat hnil
    gi_wp2
    exact HN.out _
end Go.Proofs.YtoapfldmkpobmaaGreatDoor
