"""Four bars and how they move."""
