/- The law SegTells: its frame of facts. -/
import Derived.Test.YtpkgoagoceddoaaTellB
import Derived.Test.YtpkgoagoceddoaaTwos
import Derived.Laws.AppendOwnNone
namespace Go.Proofs.Ytpkgoagoceddoaa
open Go.RowKit

def LawOk2 (F : Nat) : Prop := ∀ (a : Option Addr) (ls : List RowV) (ca : Nat) (b : Option Addr) (ns : List Int) (cb : Nat) (w : World), RowsAt w a ls → IntsAt w b ns → (b = none → cb = 0 ∧ ns = []) → ls.length ≤ 140737488351232 → ns.length ≤ 140737488351232 →
  (∀ i, i < ls.length → (ls.getD i row0).2.2.length ≤ 140737488351232) →
  Calls Try.prog F #[.agg #[.slice a ls.length ca, .slice b ns.length cb]] w fun e w' => e = .returned (.bool true) ∧ Below w.heap.size w w'

theorem wpList_append_args {P : Program} (w : World) {ops : Array Oper} {rest : List Oper} {o : Oper} {a : Act} {Q : Exit → Act → World → Prop} (hgd : o.guard = none) (s x : Operand) (t : TypeId)
    (ho : o.op = .call { callee := .builtin .append, args := #[s, x], argTypes := #[t, t] })
    (base : Nat) (e : TypeId) (i : TypeInfo) (z : Value) (bytes : Nat) (ht : P.underlying t = some (.slice e)) (hi : P.info? e = some i) (hz : i.zero = some z)
    (hsize : i.size = 1) (hby : i.bytes = bytes) (hzs : z.cells.size = 1)
    (v : Value) (n : Nat) (xs : List Value) (hs : a.eval s = v) (hown : w.ownsRow base e 1 v n xs)
    (b : Option Addr) (cb : Nat) (ns : List Int) (hx : a.eval x = .slice b ns.length cb) (hu : IntsAt w b ns) (hb : b = none → cb = 0 ∧ ns = [])
    (h63 : n + ns.length ≤ maxLen) (hbytes : (n + ns.length) * bytes ≤ 140737488355328) (hbase : base ≤ w.heap.size)
    (h : ∀ v' w', w'.ownsRow base e 1 v' (n + ns.length) (xs ++ ns.map (Value.int .i64)) → w.grownBy w' v.ownBlock → wpList P ops Q rest (a.put o.dst v') w') : wpList P ops Q (o :: rest) a w := by
  cases b with
  | none =>
    obtain ⟨rfl, rfl⟩ := hb rfl
    refine wpList_append_own_none hgd s x t ho base e i 1 ht hi v n xs hs hown hx ?_
    exact h v w (by simpa using hown) (gbRefl _ _)
  | some ad =>
    refine wpList_append_own w hgd s x t ho base e i z 1 bytes ht hi hz hsize hby hzs (by decide) v n xs hs hown ad ns.length cb (ns.map (Value.int .i64)) hx (by simp) ?_ ?_ h63 hbytes hbase ?_
    · intro j u hj
      have hlt : j < ns.length := by
        have := (List.getElem?_eq_some_iff.1 hj).1
        simpa using this
      obtain ⟨b1, o1, he, hc⟩ := hu j hlt
      have he' := Option.some.inj he
      subst he'
      rw [show (⟨b1, o1, none⟩ : Addr).add j = ⟨b1, o1 + j, none⟩ from by unfold Addr.add; split <;> simp_all, hc]
      simp [hlt] at hj ⊢
      exact hj
    · intro u hu'
      obtain ⟨z, _, rfl⟩ := List.mem_map.1 hu'
      rfl
    · intro v' w' h2 h3 _
      exact h v' w' h2 h3

def six : List Int := [0, 1, 63, 64, 65, -1]
theorem OwnInts.join {w : World} {base : Nat} {v : Value} {l m : List Int} (h : w.ownsRow base 3 1 v (l.length + m.length) (l.map (Value.int .i64) ++ m.map (Value.int .i64))) : OwnInts w base v (l ++ m) := by
  unfold OwnInts
  rw [List.length_append, List.map_append]
  exact h
theorem len_of_ints {w : World} {base : Nat} {v : Value} {l : List Int} (h : OwnInts w base v l) : l.length ≤ maxLen := by
  rcases h.2 with ⟨_, hn⟩ | ⟨g, cap, cur, _, _, _, hn, hm, _⟩
  · rw [hn]; exact Nat.zero_le _
  · omega

theorem OwnInts.atPos {w : World} {base : Nat} {v : Value} {l : List Int} (h : OwnInts w base v l) (hp : 0 < l.length) : ∃ g cap, v = .slice (some ⟨g, 0, none⟩) l.length cap ∧ IntsAt w (some ⟨g, 0, none⟩) l ∧ l.length ≤ cap ∧ cap ≤ maxLen := by
  have hh := h
  rcases h.2 with ⟨_, hn⟩ | ⟨g, cap, cur, hv, hb, hg, hc, hm, _⟩
  · omega
  · refine ⟨g, cap, hv, fun i hi => ⟨g, 0, rfl, ?_⟩, hc, hm⟩
    have := hh.cells (g := g) (by rw [hv]; rfl) i (.int .i64 (l.getD i 0)) (by simp [hi])
    rw [show (⟨g, 0, none⟩ : Addr).add i = ⟨g, 0 + i, none⟩ from by unfold Addr.add; split <;> simp_all] at this
    exact this

theorem IntsAt.take {w : World} {a : Option Addr} {l : List Int} (h : IntsAt w a l) (n : Nat) : IntsAt w a (l.take n) := by
  intro i hi
  have hi' : i < n ∧ i < l.length := by simpa [Nat.lt_min] using hi
  obtain ⟨b, off, ha, hc⟩ := h i hi'.2
  refine ⟨b, off, ha, ?_⟩
  rw [hc]
  simp [hi'.1]

theorem of_take (a : Option Addr) (l : List Int) (n cap : Nat) (w : World) (hs : IntsAt w a l) (hn : n ≤ l.length) (hl : l.length ≤ maxLen) :
    Calls Try.prog 26 #[.slice a n cap] w fun e w' => ∃ v, e = .returned (.tuple #[v, .int .i64 (errOf (allIn (l.take n)))]) ∧ OwnSegs w' w.heap.size v (ofSet (l.take n)) ∧ Below w.heap.size w w' := by
  have h := of_any a (l.take n) cap w (hs.take n) (by rw [List.length_take]; omega)
  rw [show (l.take n).length = n from by rw [List.length_take]; omega] at h
  exact h

theorem mayB_num (z : Int) : mayB z 1 = numB z 63 := by
  rw [Bool.eq_iff_iff]
  simp only [mayB, numB, Bool.and_eq_true, decide_eq_true_eq]
  omega

theorem SetJ.hit {w : World} {g k : Nat} {s s' : Nat → Bool} (h : SetJ w g s) (hs : ∀ j, j < 64 → s' j = (s j || decide (j = k))) : SetJ (w.setCell ⟨g, k, none⟩ (.bool true)) g s' := by
  refine (World.rowIs.set h k (.bool true)).congr fun j hj => ?_
  simp only [Ytpkgoagoceddoaa.setRow]
  rw [hs j hj]
  by_cases e : j = k
  · subst e; simp
  · rw [if_neg e]; simp [e]
theorem SetJ.same {w : World} {g : Nat} {s s' : Nat → Bool} (h : SetJ w g s) (hs : ∀ j, j < 64 → s' j = s j) : SetJ w g s' := by
  refine World.rowIs.congr h fun j hj => ?_
  simp only [Ytpkgoagoceddoaa.setRow]
  rw [hs j hj]

end Go.Proofs.Ytpkgoagoceddoaa
