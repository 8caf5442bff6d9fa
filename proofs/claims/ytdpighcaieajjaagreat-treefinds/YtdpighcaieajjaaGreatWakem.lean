/- A file in a new volume: what making and finding it gives. -/
import Derived.Test.YtdpighcaieajjaaGreatNewv
namespace Go.Proofs.YtdpighcaieajjaaGreat
open Go.RowKit

def pa : ByteArray := ⟨#[47, 97]⟩
def na : ByteArray := ⟨#[97]⟩
def wkD : VolD := ⟨5, 0, false, [⟨1, true, 0, [], [(na, 2)]⟩, ⟨2, false, 0, [], []⟩], 3⟩

theorem pa_path : pathN pa = some [na] := by decide +kernel
theorem new_ok : VolOk (newD 5) := by
  refine ⟨by unfold NumOk; decide +kernel, ⟨by unfold HeadOk; decide +kernel, fun k hk => ?_⟩, ⟨fun f hf l hl => ?_, fun k hk => ?_⟩, fun i hi => ?_, by decide +kernel⟩
  · have : k = 0 := by simp [newD] at hk; omega
    subst this
    refine ⟨by unfold IdOk; decide +kernel, ?_⟩
    unfold NodeOk
    exact ⟨by decide +kernel, by decide +kernel, by decide +kernel, fun k hk => by simp [newD, List.getD] at hk⟩
  · simp [newD] at hf; subst hf; simp at hl
  · have : k = 0 := by simp [newD] at hk; omega
    subst this
    exact ⟨fun _ => by decide +kernel, fun h => absurd (by decide +kernel) h⟩
  · have : i = 0 := by simp [newD] at hi; omega
    subst this; exact .root
theorem wk_ok : VolOk wkD := by
  refine ⟨by unfold NumOk; decide +kernel, ⟨by unfold HeadOk; decide +kernel, fun k hk => ?_⟩, ⟨fun f hf l hl => ?_, fun k hk => ?_⟩, fun i hi => ?_, by decide +kernel⟩
  · have : k = 0 ∨ k = 1 := by simp [wkD] at hk; omega
    rcases this with rfl | rfl
    · refine ⟨by unfold IdOk; decide +kernel, ?_⟩
      unfold NodeOk
      refine ⟨by decide +kernel, by decide +kernel, by decide +kernel, fun k hk => ?_⟩
      have : k = 0 := by simp [wkD, List.getD] at hk; omega
      subst this
      exact ⟨by decide +kernel, fun h => absurd h (by omega)⟩
    · refine ⟨by unfold IdOk; decide +kernel, ?_⟩
      unfold NodeOk
      exact ⟨by decide +kernel, by decide +kernel, by decide +kernel, fun k hk => by simp [wkD, List.getD] at hk⟩
  · have h : f = ⟨1, true, 0, [], [(na, 2)]⟩ ∨ f = ⟨2, false, 0, [], []⟩ := by simpa [wkD] using hf
    rcases h with rfl | rfl
    · simp at hl; subst hl; decide +kernel
    · simp at hl
  · have : k = 0 ∨ k = 1 := by simp [wkD] at hk; omega
    rcases this with rfl | rfl
    · exact ⟨fun _ => by decide +kernel, fun h => absurd (by decide +kernel) h⟩
    · exact ⟨fun h => absurd h (by decide +kernel), fun _ => ⟨by decide +kernel, fun h => absurd h (by decide +kernel)⟩⟩
  · have : i = 0 ∨ i = 1 := by simp [wkD] at hi; omega
    rcases this with rfl | rfl
    · exact .root
    · exact .step .root (by decide +kernel)
theorem wake1 {er : Int} {dd : VolD} (h : ChangeR (MakeG (newD 5) pa false) (newD 5) [pa] er dd) : er = 0 ∧ dd = wkD := by
  rcases h with ⟨_, _, _, L, hL, h⟩ | ⟨_, _, h, _⟩ | ⟨h, _⟩
  · rw [pa_path] at hL
    injection hL with hL
    subst hL
    have e : makF (newD 5) [na] = (0, 0) := by decide +kernel
    rw [e] at h
    rcases h with ⟨_, h1, h2⟩ | ⟨h1, _⟩
    · exact ⟨h1, by rw [h2]; decide +kernel⟩
    · exact absurd rfl h1
  · exact absurd h (by decide)
  · exact absurd ⟨new_ok, fun p hp => by simp at hp; subst hp; rw [pa_path]; rfl⟩ h
theorem wake2 {er : Int} {f : FileD} (h : FindR wkD pa er f) : er = 0 ∧ f.id = 2 := by
  rcases h with ⟨_, L, hL, h⟩ | ⟨h, _⟩
  · rw [pa_path] at hL
    injection hL with hL
    subst hL
    have e : findF wkD.files 0 [na] = (1, 0) := by decide +kernel
    rw [e] at h
    rcases h with ⟨_, h1, h2⟩ | ⟨h1, _⟩
    · exact ⟨h1, by rw [h2]; decide +kernel⟩
    · exact absurd rfl h1
  · exact absurd ⟨wk_ok, by rw [pa_path]; rfl⟩ h
theorem wake0 {er : Int} {dd : VolD} (h : NewR 5 er dd) : er = 0 ∧ dd = newD 5 := by
  rcases h with ⟨_, h1, h2⟩ | ⟨h, _⟩
  · exact ⟨h1, h2⟩
  · exact absurd h (by decide +kernel)
theorem small_new (id : Int) : SmallV (newD id) := ⟨by simp [newD], fun f hf => by simp [newD] at hf; subst hf; exact ⟨by simp, by simp⟩⟩
theorem small_wk : SmallV wkD := ⟨by simp [wkD], fun f hf => by
  have h : f = ⟨1, true, 0, [], [(na, 2)]⟩ ∨ f = ⟨2, false, 0, [], []⟩ := by simpa [wkD] using hf
  rcases h with rfl | rfl <;> exact ⟨by simp, by simp⟩⟩

end Go.Proofs.YtdpighcaieajjaaGreat
