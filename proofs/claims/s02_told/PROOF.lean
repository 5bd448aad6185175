import PyProof.Rows.All
import KE.OsGo
import PySem.Challenge.RW_toldloops_s02_told
open PySem PySem.W
set_option Elab.async false
namespace My
open Rb27

theorem parse_text : ∀ (k : Nat) (l : List Nat) (p : Prog) (r : List Nat), parse k l = some (p, r) → l = text p ++ r ∧ named p = true := by
  intro k
  induction k with
  | zero => intro l p r h; simp [parse] at h
  | succ k ih =>
    intro l p r h
    have il : ∀ c, isLetter c = true → letter (c - 97) = c ∧ c - 97 < VARS := by
      intro c hc
      simp only [isLetter, Bool.and_eq_true, decide_eq_true_eq] at hc
      simp only [letter]
      omega
    cases l with
    | nil => 
      simp only [parse, Option.some.injEq, Prod.mk.injEq] at h
      obtain ⟨rfl, rfl⟩ := h
      simp [text, named]
    | cons c l =>
      simp only [parse] at h
      split at h
      · simp only [Option.some.injEq, Prod.mk.injEq] at h
        obtain ⟨rfl, rfl⟩ := h
        simp [text, named]
      · rename_i hc
        have hc : isLetter c = true := by simpa using hc
        obtain ⟨e1, e2⟩ := il c hc
        cases l with
        | nil => simp at h
        | cons o m =>
          dsimp only at h
          split at h
          · rename_i ho
            simp only [Option.map_eq_some_iff, Prod.mk.injEq] at h
            obtain ⟨⟨p', r'⟩, h1, rfl, rfl⟩ := h
            obtain ⟨i1, i2⟩ := ih _ _ _ h1
            simp [text, named, e1, e2, ho, i1, i2]
          split at h
          · rename_i ho
            simp only [Option.map_eq_some_iff, Prod.mk.injEq] at h
            obtain ⟨⟨p', r'⟩, h1, rfl, rfl⟩ := h
            obtain ⟨i1, i2⟩ := ih _ _ _ h1
            simp [text, named, e1, e2, ho, i1, i2]
          split at h
          · rename_i ho
            cases m with
            | nil => simp at h
            | cons d m =>
              dsimp only at h
              split at h
              · rename_i hd
                simp only [Option.map_eq_some_iff, Prod.mk.injEq] at h
                obtain ⟨⟨p', r'⟩, h1, rfl, rfl⟩ := h
                obtain ⟨i1, i2⟩ := ih _ _ _ h1
                simp [text, named, e1, e2, ho, hd, i1, i2]
              split at h
              · rename_i hd
                obtain ⟨f1, f2⟩ := il d hd
                simp only [Option.map_eq_some_iff, Prod.mk.injEq] at h
                obtain ⟨⟨p', r'⟩, h1, rfl, rfl⟩ := h
                obtain ⟨i1, i2⟩ := ih _ _ _ h1
                simp [text, named, e1, e2, ho, f1, f2, i1, i2]
              · simp at h
          split at h
          · rename_i ho
            split at h
            · rename_i b e m' hb
              split at h
              · rename_i he
                simp only [Option.map_eq_some_iff, Prod.mk.injEq] at h
                obtain ⟨⟨p', r'⟩, h1, rfl, rfl⟩ := h
                obtain ⟨i1, i2⟩ := ih _ _ _ h1
                obtain ⟨j1, j2⟩ := ih _ _ _ hb
                simp [text, named, e1, e2, ho, he, i1, i2, j1, j2]
              · simp at h
            · simp at h
          split at h
          · rename_i ho
            split at h
            · rename_i b e m' hb
              split at h
              · rename_i he
                simp only [Option.map_eq_some_iff, Prod.mk.injEq] at h
                obtain ⟨⟨p', r'⟩, h1, rfl, rfl⟩ := h
                obtain ⟨i1, i2⟩ := ih _ _ _ h1
                obtain ⟨j1, j2⟩ := ih _ _ _ hb
                simp [text, named, e1, e2, ho, he, i1, i2, j1, j2]
              · simp at h
            · simp at h
          · simp at h

theorem program_text {l : List Nat} {p : Prog} (h : program l = some p) : l = text p ∧ named p = true ∧ depth p ≤ DEEP := by
  simp only [program] at h
  split at h
  · rename_i q hq
    split at h
    · rename_i hg
      simp only [Option.some.injEq] at h
      subst h
      have e := parse_text _ _ _ _ hq
      simp only [good, Bool.and_eq_true, decide_eq_true_eq] at hg
      simpa using ⟨by simpa using e.1, e.2, hg.2⟩
    · simp at h
  · simp at h

theorem told_square : ∀ (p : Prog), named p = true → (91 ∈ text p ↔ told p = false)
  | .done, _ => by simp [text, told]
  | .clear x r, h => by
    simp only [named, Bool.and_eq_true, decide_eq_true_eq] at h
    have n1 : ¬ (91 = 97 + x) := by omega
    simp [text, told, letter, n1, told_square r h.2]
  | .copy x y r, h => by
    simp only [named, Bool.and_eq_true, decide_eq_true_eq] at h
    have n1 : ¬ (91 = 97 + x) := by omega
    have n2 : ¬ (91 = 97 + y) := by omega
    simp [text, told, letter, n1, n2, told_square r h.2.2]
  | .up x r, h => by
    simp only [named, Bool.and_eq_true, decide_eq_true_eq] at h
    have n1 : ¬ (91 = 97 + x) := by omega
    simp [text, told, letter, n1, told_square r h.2]
  | .down x r, h => by
    simp only [named, Bool.and_eq_true, decide_eq_true_eq] at h
    have n1 : ¬ (91 = 97 + x) := by omega
    simp [text, told, letter, n1, told_square r h.2]
  | .loop x b r, h => by
    simp only [named, Bool.and_eq_true, decide_eq_true_eq] at h
    have n1 : ¬ (91 = 97 + x) := by omega
    simp only [text, told, letter, List.mem_cons, List.mem_append, n1, told_square r h.2.2, told_square b h.2.1, Bool.and_eq_false_iff]
    simp
  | .still x b r, h => by
    simp [text, told]

theorem told_due {ns : List Int} {p : Prog} (h : program (Rb27Neutral.nats ns) = some p) (hn : ∀ x ∈ ns, (0:Int) ≤ x ∧ x ≤ 255) : ((91 : Int) ∈ ns ↔ told p = false) := by
  obtain ⟨e, hd, _⟩ := program_text h
  rw [← told_square p hd, ← e]
  simp only [Rb27Neutral.nats, List.mem_map]
  constructor
  · intro hm; exact ⟨91, hm, rfl⟩
  · rintro ⟨a, ha, he⟩
    have := hn a ha
    have : a = 91 := by omega
    exact this ▸ ha
theorem asked_prog {ns : List Int} (h : Rb27Neutral.right ns = true) : ∃ p, program (Rb27Neutral.nats ns) = some p := by
  simp only [Rb27Neutral.right, Bool.and_eq_true, Option.isSome_iff_exists] at h
  exact h.2

theorem told_end {ns : List Int} (ha : PyRb27.told_asked ns = true) (hn : ∀ x ∈ ns, (0:Int) ≤ x ∧ x ≤ 255) :
    PyRb27.told ns = [if (91 : Int) ∈ ns then 0 else 1] := by
  obtain ⟨p, hp⟩ := asked_prog (ns := ns) ha
  show Rb27Neutral.of ns _ = _
  simp only [Rb27Neutral.of, hp]
  have := told_due hp hn
  by_cases h : (91 : Int) ∈ ns
  · rw [if_pos h, this.mp h]; rfl
  · rw [if_neg h]
    have h2 : told p = true := by
      cases ht : told p with
      | true => rfl
      | false => exact absurd (this.mpr ht) h
    rw [h2]; rfl
theorem told_yes {ns : List Int} (ha : PyRb27.told_asked ns = true) (hn : ∀ x ∈ ns, Int.ofNat 0 ≤ x ∧ x ≤ Int.ofNat 255)
    (h : (ns.any fun x => x == 91) = true) : [PySem.PyData.int 0] = List.map PySem.PyData.int (PyRb27.told ns) := by
  have hm : (91 : Int) ∈ ns := by
    obtain ⟨x, hx, e⟩ := List.any_eq_true.mp h
    have : x = 91 := by simpa using e
    exact this ▸ hx
  rw [told_end ha hn, if_pos hm]
  rfl
theorem told_no {ns : List Int} (ha : PyRb27.told_asked ns = true) (hn : ∀ x ∈ ns, Int.ofNat 0 ≤ x ∧ x ≤ Int.ofNat 255)
    (h : (ns.any fun x => x == 91) = false) : [PySem.PyData.int 1] = List.map PySem.PyData.int (PyRb27.told ns) := by
  have hm : ¬ (91 : Int) ∈ ns := by
    intro hm
    have := List.any_eq_false.mp h 91 hm
    simp at this
  rw [told_end ha hn, if_neg hm]
  rfl
end My

set_option maxRecDepth 100000 in
set_option maxHeartbeats 8000000 in
theorem PySem.Challenge.cw_toldloops_s02_told_holds : PySem.Challenge.rw_toldloops_s02_told.Holds := by
  open_ks
  all_goals os_ints
  all_goals refine os_same_list (k := _) ?_
  · exact My.told_yes (by assumption) (by assumption) (by assumption)
  · exact My.told_no (by assumption) (by assumption) (by assumption)
#print axioms PySem.Challenge.cw_toldloops_s02_told_holds
